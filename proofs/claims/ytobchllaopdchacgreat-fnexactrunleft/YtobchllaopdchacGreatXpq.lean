import Derived.Test.YtobchllaopdchacGreatM11
import Derived.Test.YtobchllaopdchacGreatM1
import Derived.Stop.Asserts
namespace Go.Proofs.YtobchllaopdchacGreat
open Go.RowKit
def phV (kd : Int) (a b : ByteArray) (n wi : Int) : Value :=
  if kd = 1 then .iface 238 (.agg #[.string a, .int .i64 n, .string b]) else if kd = 2 then .iface 240 (.agg #[.int .i64 n, .string a, .string b]) else if kd = 3 then .iface 242 (.agg #[.string a, .int .i64 n, .int .i64 wi]) else if kd = 4 then .iface 244 (.agg #[.string a]) else if kd = 5 then .iface 245 (.agg #[.string a]) else .iface 246 (.agg #[])
theorem ph_no {kd : Int} (a b : ByteArray) (n wi : Int) (h1 : ¬ kd = 1) (h2 : ¬ kd = 2) (h3 : ¬ kd = 3) (h4 : ¬ kd = 4) (h5 : ¬ kd = 5) : phV kd a b n wi = .iface 246 (.agg #[]) := by
  unfold phV
  rw [if_neg h1, if_neg h2, if_neg h3, if_neg h4, if_neg h5]
theorem ph_1 (a b : ByteArray) (n wi : Int) : phV 1 a b n wi = .iface 238 (.agg #[.string a, .int .i64 n, .string b]) := rfl
theorem ph_2 (a b : ByteArray) (n wi : Int) : phV 2 a b n wi = .iface 240 (.agg #[.int .i64 n, .string a, .string b]) := rfl
theorem ph_3 (a b : ByteArray) (n wi : Int) : phV 3 a b n wi = .iface 242 (.agg #[.string a, .int .i64 n, .int .i64 wi]) := rfl
theorem ph_4 (a b : ByteArray) (n wi : Int) : phV 4 a b n wi = .iface 244 (.agg #[.string a]) := rfl
theorem ph_5 (a b : ByteArray) (n wi : Int) : phV 5 a b n wi = .iface 245 (.agg #[.string a]) := rfl
set_option maxRecDepth 100000 in
set_option maxHeartbeats 4000000 in
theorem phasing_any (nm a b th el : ByteArray) (kd n wi : Int) (w : World) :
    Calls Tryz.prog 161 #[.agg #[.string nm, .int .i64 kd, .string a, .string b, .int .i64 n, .int .i64 wi, .string th, .string el]] w fun e w' => e = .returned (phV kd a b n wi) ∧ Below w.heap.size w w' := by
  by_cases h1 : kd = 1
  · subst h1
    rw [ph_1]
    go_enter Tryz.func161, Tryz.ntmps161
    go_wp2
    go_ret
    exact ⟨rfl, (Below.refl _ _).alloc (Nat.le_refl _) _⟩
  · by_cases h2 : kd = 2
    · subst h2
      rw [ph_2]
      go_enter Tryz.func161, Tryz.ntmps161
      go_wp2
      go_ret
      exact ⟨rfl, (Below.refl _ _).alloc (Nat.le_refl _) _⟩
    · by_cases h3 : kd = 3
      · subst h3
        rw [ph_3]
        go_enter Tryz.func161, Tryz.ntmps161
        go_wp2
        go_ret
        exact ⟨rfl, (Below.refl _ _).alloc (Nat.le_refl _) _⟩
      · by_cases h4 : kd = 4
        · subst h4
          rw [ph_4]
          go_enter Tryz.func161, Tryz.ntmps161
          go_wp2
          go_ret
          exact ⟨rfl, (Below.refl _ _).alloc (Nat.le_refl _) _⟩
        · by_cases h5 : kd = 5
          · subst h5
            rw [ph_5]
            go_enter Tryz.func161, Tryz.ntmps161
            go_wp2
            go_ret
            exact ⟨rfl, (Below.refl _ _).alloc (Nat.le_refl _) _⟩
          · rw [ph_no a b n wi h1 h2 h3 h4 h5]
            have g1 : (kd == 1) = false := by simpa using h1
            have g2 : (kd == 2) = false := by simpa using h2
            have g3 : (kd == 3) = false := by simpa using h3
            have g4 : (kd == 4) = false := by simpa using h4
            have g5 : (kd == 5) = false := by simpa using h5
            clear h1 h2 h3 h4 h5
            go_enter Tryz.func161, Tryz.ntmps161
            go_wp2
            go_ret
            exact ⟨rfl, (Below.refl _ _).alloc (Nat.le_refl _) _⟩
theorem taN_0 {kd : Int} (a b : ByteArray) (n wi : Int) (h1 : ¬ kd = 1) (h2 : ¬ kd = 2) (h3 : ¬ kd = 3) (h4 : ¬ kd = 4) (h5 : ¬ kd = 5) (W : World) : (Instr.typeAssert (phV kd a b n wi) 198 246 true).run Tryz.prog W = .ok (.tuple #[.agg #[], .bool true]) W := by
  rw [ph_no a b n wi h1 h2 h3 h4 h5]
  kernel_rfl
theorem taS_0 {kd : Int} (a b : ByteArray) (n wi : Int) (h1 : ¬ kd = 1) (h2 : ¬ kd = 2) (h3 : ¬ kd = 3) (h4 : ¬ kd = 4) (h5 : ¬ kd = 5) (W : World) : (Instr.typeAssert (phV kd a b n wi) 198 251 true).run Tryz.prog W = .ok (.tuple #[.nilIface, .bool false]) W := by
  rw [ph_no a b n wi h1 h2 h3 h4 h5]
  exact run_typeAssert_lacksB Tryz.underlying251 (by kernel_rfl) (by kernel_rfl) _ _ W
theorem taC_0 {kd : Int} (a b : ByteArray) (n wi : Int) (h1 : ¬ kd = 1) (h2 : ¬ kd = 2) (h3 : ¬ kd = 3) (h4 : ¬ kd = 4) (h5 : ¬ kd = 5) (W : World) : (Instr.typeAssert (phV kd a b n wi) 198 254 true).run Tryz.prog W = .ok (.tuple #[.nilIface, .bool false]) W := by
  rw [ph_no a b n wi h1 h2 h3 h4 h5]
  exact run_typeAssert_lacksB Tryz.underlying254 (by kernel_rfl) (by kernel_rfl) _ _ W
theorem taN_1 (a b : ByteArray) (n wi : Int) (W : World) : (Instr.typeAssert (phV 1 a b n wi) 198 246 true).run Tryz.prog W = .ok (.tuple #[.agg #[], .bool false]) W := by
  rw [ph_1]
  kernel_rfl
theorem taS_1 (a b : ByteArray) (n wi : Int) (W : World) : (Instr.typeAssert (phV 1 a b n wi) 198 251 true).run Tryz.prog W = .ok (.tuple #[.iface 238 (.agg #[.string a, .int .i64 n, .string b]), .bool true]) W := by
  rw [ph_1]
  exact run_typeAssert_hasB Tryz.underlying251 (by kernel_rfl) _ _ W
theorem taC_1 (a b : ByteArray) (n wi : Int) (W : World) : (Instr.typeAssert (phV 1 a b n wi) 198 254 true).run Tryz.prog W = .ok (.tuple #[.iface 238 (.agg #[.string a, .int .i64 n, .string b]), .bool true]) W := by
  rw [ph_1]
  exact run_typeAssert_hasB Tryz.underlying254 (by kernel_rfl) _ _ W
theorem taN_2 (a b : ByteArray) (n wi : Int) (W : World) : (Instr.typeAssert (phV 2 a b n wi) 198 246 true).run Tryz.prog W = .ok (.tuple #[.agg #[], .bool false]) W := by
  rw [ph_2]
  kernel_rfl
theorem taS_2 (a b : ByteArray) (n wi : Int) (W : World) : (Instr.typeAssert (phV 2 a b n wi) 198 251 true).run Tryz.prog W = .ok (.tuple #[.iface 240 (.agg #[.int .i64 n, .string a, .string b]), .bool true]) W := by
  rw [ph_2]
  exact run_typeAssert_hasB Tryz.underlying251 (by kernel_rfl) _ _ W
theorem taC_2 (a b : ByteArray) (n wi : Int) (W : World) : (Instr.typeAssert (phV 2 a b n wi) 198 254 true).run Tryz.prog W = .ok (.tuple #[.iface 240 (.agg #[.int .i64 n, .string a, .string b]), .bool true]) W := by
  rw [ph_2]
  exact run_typeAssert_hasB Tryz.underlying254 (by kernel_rfl) _ _ W
theorem taN_3 (a b : ByteArray) (n wi : Int) (W : World) : (Instr.typeAssert (phV 3 a b n wi) 198 246 true).run Tryz.prog W = .ok (.tuple #[.agg #[], .bool false]) W := by
  rw [ph_3]
  kernel_rfl
theorem taS_3 (a b : ByteArray) (n wi : Int) (W : World) : (Instr.typeAssert (phV 3 a b n wi) 198 251 true).run Tryz.prog W = .ok (.tuple #[.nilIface, .bool false]) W := by
  rw [ph_3]
  exact run_typeAssert_lacksB Tryz.underlying251 (by kernel_rfl) (by kernel_rfl) _ _ W
theorem taC_3 (a b : ByteArray) (n wi : Int) (W : World) : (Instr.typeAssert (phV 3 a b n wi) 198 254 true).run Tryz.prog W = .ok (.tuple #[.iface 242 (.agg #[.string a, .int .i64 n, .int .i64 wi]), .bool true]) W := by
  rw [ph_3]
  exact run_typeAssert_hasB Tryz.underlying254 (by kernel_rfl) _ _ W
theorem taN_4 (a b : ByteArray) (n wi : Int) (W : World) : (Instr.typeAssert (phV 4 a b n wi) 198 246 true).run Tryz.prog W = .ok (.tuple #[.agg #[], .bool false]) W := by
  rw [ph_4]
  kernel_rfl
theorem taS_4 (a b : ByteArray) (n wi : Int) (W : World) : (Instr.typeAssert (phV 4 a b n wi) 198 251 true).run Tryz.prog W = .ok (.tuple #[.nilIface, .bool false]) W := by
  rw [ph_4]
  exact run_typeAssert_lacksB Tryz.underlying251 (by kernel_rfl) (by kernel_rfl) _ _ W
theorem taC_4 (a b : ByteArray) (n wi : Int) (W : World) : (Instr.typeAssert (phV 4 a b n wi) 198 254 true).run Tryz.prog W = .ok (.tuple #[.nilIface, .bool false]) W := by
  rw [ph_4]
  exact run_typeAssert_lacksB Tryz.underlying254 (by kernel_rfl) (by kernel_rfl) _ _ W
theorem taN_5 (a b : ByteArray) (n wi : Int) (W : World) : (Instr.typeAssert (phV 5 a b n wi) 198 246 true).run Tryz.prog W = .ok (.tuple #[.agg #[], .bool false]) W := by
  rw [ph_5]
  kernel_rfl
theorem taS_5 (a b : ByteArray) (n wi : Int) (W : World) : (Instr.typeAssert (phV 5 a b n wi) 198 251 true).run Tryz.prog W = .ok (.tuple #[.nilIface, .bool false]) W := by
  rw [ph_5]
  exact run_typeAssert_lacksB Tryz.underlying251 (by kernel_rfl) (by kernel_rfl) _ _ W
theorem taC_5 (a b : ByteArray) (n wi : Int) (W : World) : (Instr.typeAssert (phV 5 a b n wi) 198 254 true).run Tryz.prog W = .ok (.tuple #[.nilIface, .bool false]) W := by
  rw [ph_5]
  exact run_typeAssert_lacksB Tryz.underlying254 (by kernel_rfl) (by kernel_rfl) _ _ W
def kindB (kd : Int) : Bool := decide (kd = 1 ∨ kd = 2 ∨ kd = 3 ∨ kd = 4 ∨ kd = 5)
def secB (kd : Int) (a b : ByteArray) : Bool := if kd = 1 then nameB b else if kd = 2 then nameB b && !(eqB b a) else isT b []
def cntB (kd n wi : Int) : Bool := if kd = 1 ∨ kd = 2 then decide (1 ≤ n) && decide (n ≤ 1000) else if kd = 3 then decide (1 ≤ n) && decide (n ≤ wi) else n == 0
set_option maxRecDepth 100000 in
set_option maxHeartbeats 4000000 in
theorem kindOk_any (nm a b th el : ByteArray) (kd n wi : Int) (w : World) :
    Calls Tryz.prog 166 #[.agg #[.string nm, .int .i64 kd, .string a, .string b, .int .i64 n, .int .i64 wi, .string th, .string el]] w fun e w' => e = .returned (.bool (kindB kd)) ∧ Below w.heap.size w w' := by
  by_cases h1 : kd = 1
  · subst h1
    have ta := taN_1 a b n wi
    have EW : kindB 1 = true := by simp [kindB]
    rw [EW]
    clear EW
    have k0 : Hid (Below (w.heap.size + 1) (w.alloc (.cells #[.string nm, .int .i64 1, .string a, .string b, .int .i64 n, .int .i64 wi, .string th, .string el] 75)) (w.alloc (.cells #[.string nm, .int .i64 1, .string a, .string b, .int .i64 n, .int .i64 wi, .string th, .string el] 75))) := Below.refl _ _
    go_enter Tryz.func166, Tryz.ntmps166
    go_wp2_with fail
    refine (phasing_any nm a b th el 1 n wi _).mono ?_; rintro e w1 ⟨rfl, hb1⟩
    have k1 : Hid (Below (w.heap.size + 1) (w.alloc (.cells #[.string nm, .int .i64 1, .string a, .string b, .int .i64 n, .int .i64 wi, .string th, .string el] 75)) w1) := below_of k0.out hb1
    clear hb1
    have s1 : w.heap.size ≤ w1.heap.size := by have := (below_end k1.out).size; exact this
    go_wp2_with fail
    go_ret
    exact ⟨rfl, (below_end k1.out).alloc s1 _⟩
  · by_cases h2 : kd = 2
    · subst h2
      have ta := taN_2 a b n wi
      have EW : kindB 2 = true := by simp [kindB]
      rw [EW]
      clear EW
      have k0 : Hid (Below (w.heap.size + 1) (w.alloc (.cells #[.string nm, .int .i64 2, .string a, .string b, .int .i64 n, .int .i64 wi, .string th, .string el] 75)) (w.alloc (.cells #[.string nm, .int .i64 2, .string a, .string b, .int .i64 n, .int .i64 wi, .string th, .string el] 75))) := Below.refl _ _
      go_enter Tryz.func166, Tryz.ntmps166
      go_wp2_with fail
      refine (phasing_any nm a b th el 2 n wi _).mono ?_; rintro e w1 ⟨rfl, hb1⟩
      have k1 : Hid (Below (w.heap.size + 1) (w.alloc (.cells #[.string nm, .int .i64 2, .string a, .string b, .int .i64 n, .int .i64 wi, .string th, .string el] 75)) w1) := below_of k0.out hb1
      clear hb1
      have s1 : w.heap.size ≤ w1.heap.size := by have := (below_end k1.out).size; exact this
      go_wp2_with fail
      go_ret
      exact ⟨rfl, (below_end k1.out).alloc s1 _⟩
    · by_cases h3 : kd = 3
      · subst h3
        have ta := taN_3 a b n wi
        have EW : kindB 3 = true := by simp [kindB]
        rw [EW]
        clear EW
        have k0 : Hid (Below (w.heap.size + 1) (w.alloc (.cells #[.string nm, .int .i64 3, .string a, .string b, .int .i64 n, .int .i64 wi, .string th, .string el] 75)) (w.alloc (.cells #[.string nm, .int .i64 3, .string a, .string b, .int .i64 n, .int .i64 wi, .string th, .string el] 75))) := Below.refl _ _
        go_enter Tryz.func166, Tryz.ntmps166
        go_wp2_with fail
        refine (phasing_any nm a b th el 3 n wi _).mono ?_; rintro e w1 ⟨rfl, hb1⟩
        have k1 : Hid (Below (w.heap.size + 1) (w.alloc (.cells #[.string nm, .int .i64 3, .string a, .string b, .int .i64 n, .int .i64 wi, .string th, .string el] 75)) w1) := below_of k0.out hb1
        clear hb1
        have s1 : w.heap.size ≤ w1.heap.size := by have := (below_end k1.out).size; exact this
        go_wp2_with fail
        go_ret
        exact ⟨rfl, (below_end k1.out).alloc s1 _⟩
      · by_cases h4 : kd = 4
        · subst h4
          have ta := taN_4 a b n wi
          have EW : kindB 4 = true := by simp [kindB]
          rw [EW]
          clear EW
          have k0 : Hid (Below (w.heap.size + 1) (w.alloc (.cells #[.string nm, .int .i64 4, .string a, .string b, .int .i64 n, .int .i64 wi, .string th, .string el] 75)) (w.alloc (.cells #[.string nm, .int .i64 4, .string a, .string b, .int .i64 n, .int .i64 wi, .string th, .string el] 75))) := Below.refl _ _
          go_enter Tryz.func166, Tryz.ntmps166
          go_wp2_with fail
          refine (phasing_any nm a b th el 4 n wi _).mono ?_; rintro e w1 ⟨rfl, hb1⟩
          have k1 : Hid (Below (w.heap.size + 1) (w.alloc (.cells #[.string nm, .int .i64 4, .string a, .string b, .int .i64 n, .int .i64 wi, .string th, .string el] 75)) w1) := below_of k0.out hb1
          clear hb1
          have s1 : w.heap.size ≤ w1.heap.size := by have := (below_end k1.out).size; exact this
          go_wp2_with fail
          go_ret
          exact ⟨rfl, (below_end k1.out).alloc s1 _⟩
        · by_cases h5 : kd = 5
          · subst h5
            have ta := taN_5 a b n wi
            have EW : kindB 5 = true := by simp [kindB]
            rw [EW]
            clear EW
            have k0 : Hid (Below (w.heap.size + 1) (w.alloc (.cells #[.string nm, .int .i64 5, .string a, .string b, .int .i64 n, .int .i64 wi, .string th, .string el] 75)) (w.alloc (.cells #[.string nm, .int .i64 5, .string a, .string b, .int .i64 n, .int .i64 wi, .string th, .string el] 75))) := Below.refl _ _
            go_enter Tryz.func166, Tryz.ntmps166
            go_wp2_with fail
            refine (phasing_any nm a b th el 5 n wi _).mono ?_; rintro e w1 ⟨rfl, hb1⟩
            have k1 : Hid (Below (w.heap.size + 1) (w.alloc (.cells #[.string nm, .int .i64 5, .string a, .string b, .int .i64 n, .int .i64 wi, .string th, .string el] 75)) w1) := below_of k0.out hb1
            clear hb1
            have s1 : w.heap.size ≤ w1.heap.size := by have := (below_end k1.out).size; exact this
            go_wp2_with fail
            go_ret
            exact ⟨rfl, (below_end k1.out).alloc s1 _⟩
          · have ta := taN_0 a b n wi h1 h2 h3 h4 h5
            have EW : kindB kd = false := by simp [kindB, h1, h2, h3, h4, h5]
            rw [EW]
            clear EW
            have k0 : Hid (Below (w.heap.size + 1) (w.alloc (.cells #[.string nm, .int .i64 kd, .string a, .string b, .int .i64 n, .int .i64 wi, .string th, .string el] 75)) (w.alloc (.cells #[.string nm, .int .i64 kd, .string a, .string b, .int .i64 n, .int .i64 wi, .string th, .string el] 75))) := Below.refl _ _
            go_enter Tryz.func166, Tryz.ntmps166
            go_wp2_with fail
            refine (phasing_any nm a b th el kd n wi _).mono ?_; rintro e w1 ⟨rfl, hb1⟩
            have k1 : Hid (Below (w.heap.size + 1) (w.alloc (.cells #[.string nm, .int .i64 kd, .string a, .string b, .int .i64 n, .int .i64 wi, .string th, .string el] 75)) w1) := below_of k0.out hb1
            clear hb1
            have s1 : w.heap.size ≤ w1.heap.size := by have := (below_end k1.out).size; exact this
            go_wp2_with fail
            go_ret
            exact ⟨rfl, (below_end k1.out).alloc s1 _⟩
set_option maxRecDepth 100000 in
set_option maxHeartbeats 4000000 in
theorem fillSec_any (a b : ByteArray) (n : Int) (w : World) (hb : b.size ≤ maxLen) : Calls Tryz.prog 236 #[.agg #[.string a, .int .i64 n, .string b]] w fun e w' => e = .returned (.bool (nameB b)) ∧ Below w.heap.size w w' := by
  have k0 : Hid (Below (w.heap.size + 1) (w.alloc (.cells #[.string a, .int .i64 n, .string b] 238)) (w.alloc (.cells #[.string a, .int .i64 n, .string b] 238))) := Below.refl _ _
  go_enter Tryz.func236, Tryz.ntmps236
  go_wp2_with fail
  refine (nameI_any b _ hb).mono ?_; rintro e w1 ⟨rfl, hb1⟩
  have k1 := below_end (below_of k0.out hb1)
  have K1 : Hid (Below w.heap.size w w1) := k1
  clear hb1 k1
  go_wp2_with fail
  go_ret
  exact ⟨rfl, K1.out⟩
set_option maxRecDepth 100000 in
set_option maxHeartbeats 4000000 in
theorem moveSec_any (a b : ByteArray) (n : Int) (w : World) (hb : b.size ≤ maxLen) : Calls Tryz.prog 237 #[.agg #[.int .i64 n, .string a, .string b]] w fun e w' => e = .returned (.bool (nameB b && !(eqB b a))) ∧ Below w.heap.size w w' := by
  cases h1 : nameB b
  · have k0 : Hid (Below (w.heap.size + 1) (w.alloc (.cells #[.int .i64 n, .string a, .string b] 240)) (w.alloc (.cells #[.int .i64 n, .string a, .string b] 240))) := Below.refl _ _
    go_enter Tryz.func237, Tryz.ntmps237
    go_wp2_with fail
    refine (nameI_any b _ hb).mono ?_; rintro e w1 ⟨rfl, hb1⟩
    rw [h1]
    have k1 : Hid (Below (w.heap.size + 1) (w.alloc (.cells #[.int .i64 n, .string a, .string b] 240)) w1) := below_of k0.out hb1
    clear hb1
    go_wp2_with fail
    go_ret
    exact ⟨rfl, below_end k1.out⟩
  · cases h2 : eqB b a
    all_goals
      unfold eqB at h2
      have k0 : Hid (Below (w.heap.size + 1) (w.alloc (.cells #[.int .i64 n, .string a, .string b] 240)) (w.alloc (.cells #[.int .i64 n, .string a, .string b] 240))) := Below.refl _ _
      go_enter Tryz.func237, Tryz.ntmps237
      go_wp2_with fail
      refine (nameI_any b _ hb).mono ?_; rintro e w1 ⟨rfl, hb1⟩
      rw [h1]
      have k1 : Hid (Below (w.heap.size + 1) (w.alloc (.cells #[.int .i64 n, .string a, .string b] 240)) w1) := below_of k0.out hb1
      clear hb1
      have x1 := box_at _ _ k1.out 1 (.string a) rfl
      have x2 := box_at _ _ k1.out 2 (.string b) rfl
      go_wp2_with fail
      go_ret
      exact ⟨rfl, below_end k1.out⟩
set_option maxRecDepth 100000 in
set_option maxHeartbeats 4000000 in
theorem amount_any (n : Int) (w : World) : Calls Tryz.prog 235 #[.agg #[.int .i64 n]] w fun e w' => e = .returned (.bool (decide (1 ≤ n) && decide (n ≤ 1000))) ∧ Below w.heap.size w w' := by
  cases h1 : decide (1 ≤ n)
  · go_enter Tryz.func235, Tryz.ntmps235
    go_wp2
    go_ret
    exact ⟨rfl, (Below.refl _ _).alloc (Nat.le_refl _) _⟩
  · go_enter Tryz.func235, Tryz.ntmps235
    go_wp2
    go_ret
    exact ⟨rfl, (Below.refl _ _).alloc (Nat.le_refl _) _⟩
set_option maxRecDepth 100000 in
set_option maxHeartbeats 4000000 in
theorem holdCnt_any (a : ByteArray) (n wi : Int) (w : World) : Calls Tryz.prog 239 #[.agg #[.string a, .int .i64 n, .int .i64 wi]] w fun e w' => e = .returned (.bool (decide (1 ≤ n) && decide (n ≤ wi))) ∧ Below w.heap.size w w' := by
  cases h1 : decide (1 ≤ n)
  · go_enter Tryz.func239, Tryz.ntmps239
    go_wp2
    go_ret
    exact ⟨rfl, (Below.refl _ _).alloc (Nat.le_refl _) _⟩
  · go_enter Tryz.func239, Tryz.ntmps239
    go_wp2
    go_ret
    exact ⟨rfl, (Below.refl _ _).alloc (Nat.le_refl _) _⟩
set_option maxRecDepth 100000 in
set_option maxHeartbeats 4000000 in
theorem second_any (nm a b th el : ByteArray) (kd n wi : Int) (w : World) (hb : b.size ≤ maxLen) :
    Calls Tryz.prog 167 #[.agg #[.string nm, .int .i64 kd, .string a, .string b, .int .i64 n, .int .i64 wi, .string th, .string el]] w fun e w' => e = .returned (.bool (secB kd a b)) ∧ Below w.heap.size w w' := by
  by_cases h1 : kd = 1
  · subst h1
    have ta := taS_1 a b n wi
    have hm : ∀ W, (Go.method 388 238 (.agg #[.string a, .int .i64 n, .string b]) "loop.example/malthouse/impl.secondOk").run Tryz.prog W = .ok (236, .agg #[.string a, .int .i64 n, .string b]) W := fun W => by kernel_rfl
    have EW : secB 1 a b = (nameB b) := rfl
    rw [EW]
    clear EW
    have k0 : Hid (Below (w.heap.size + 1) (w.alloc (.cells #[.string nm, .int .i64 1, .string a, .string b, .int .i64 n, .int .i64 wi, .string th, .string el] 75)) (w.alloc (.cells #[.string nm, .int .i64 1, .string a, .string b, .int .i64 n, .int .i64 wi, .string th, .string el] 75))) := Below.refl _ _
    go_enter Tryz.func167, Tryz.ntmps167
    go_wp2_with fail
    refine (phasing_any nm a b th el 1 n wi _).mono ?_; rintro e w1 ⟨rfl, hb1⟩
    have k1 : Hid (Below (w.heap.size + 1) (w.alloc (.cells #[.string nm, .int .i64 1, .string a, .string b, .int .i64 n, .int .i64 wi, .string th, .string el] 75)) w1) := below_of k0.out hb1
    clear hb1
    go_wp2_with fail
    refine (fillSec_any a b n _ hb).mono ?_; rintro e w2 ⟨rfl, hb2⟩
    have k2 : Hid (Below w.heap.size w w2) := below_end (below_of k1.out hb2)
    clear hb2
    go_wp2_with fail
    go_ret
    exact ⟨rfl, k2.out⟩
  · by_cases h2 : kd = 2
    · subst h2
      have ta := taS_2 a b n wi
      have hm : ∀ W, (Go.method 388 240 (.agg #[.int .i64 n, .string a, .string b]) "loop.example/malthouse/impl.secondOk").run Tryz.prog W = .ok (237, .agg #[.int .i64 n, .string a, .string b]) W := fun W => by kernel_rfl
      have EW : secB 2 a b = (nameB b && !(eqB b a)) := rfl
      rw [EW]
      clear EW
      have k0 : Hid (Below (w.heap.size + 1) (w.alloc (.cells #[.string nm, .int .i64 2, .string a, .string b, .int .i64 n, .int .i64 wi, .string th, .string el] 75)) (w.alloc (.cells #[.string nm, .int .i64 2, .string a, .string b, .int .i64 n, .int .i64 wi, .string th, .string el] 75))) := Below.refl _ _
      go_enter Tryz.func167, Tryz.ntmps167
      go_wp2_with fail
      refine (phasing_any nm a b th el 2 n wi _).mono ?_; rintro e w1 ⟨rfl, hb1⟩
      have k1 : Hid (Below (w.heap.size + 1) (w.alloc (.cells #[.string nm, .int .i64 2, .string a, .string b, .int .i64 n, .int .i64 wi, .string th, .string el] 75)) w1) := below_of k0.out hb1
      clear hb1
      go_wp2_with fail
      refine (moveSec_any a b n _ hb).mono ?_; rintro e w2 ⟨rfl, hb2⟩
      have k2 : Hid (Below w.heap.size w w2) := below_end (below_of k1.out hb2)
      clear hb2
      go_wp2_with fail
      go_ret
      exact ⟨rfl, k2.out⟩
    · by_cases h3 : kd = 3
      · subst h3
        have ta := taS_3 a b n wi
        have EW : secB 3 a b = isT b [] := by rfl
        rw [EW]
        clear EW
        cases c : isT b []
        all_goals
          unfold isT at c
          have k0 : Hid (Below (w.heap.size + 1) (w.alloc (.cells #[.string nm, .int .i64 3, .string a, .string b, .int .i64 n, .int .i64 wi, .string th, .string el] 75)) (w.alloc (.cells #[.string nm, .int .i64 3, .string a, .string b, .int .i64 n, .int .i64 wi, .string th, .string el] 75))) := Below.refl _ _
          go_enter Tryz.func167, Tryz.ntmps167
          go_wp2_with fail
          refine (phasing_any nm a b th el 3 n wi _).mono ?_; rintro e w1 ⟨rfl, hb1⟩
          have k1 : Hid (Below (w.heap.size + 1) (w.alloc (.cells #[.string nm, .int .i64 3, .string a, .string b, .int .i64 n, .int .i64 wi, .string th, .string el] 75)) w1) := below_of k0.out hb1
          clear hb1
          have x3 := box_at _ _ k1.out 3 (.string b) rfl
          go_wp2_with fail
          go_ret
          exact ⟨rfl, below_end k1.out⟩
      · by_cases h4 : kd = 4
        · subst h4
          have ta := taS_4 a b n wi
          have EW : secB 4 a b = isT b [] := by rfl
          rw [EW]
          clear EW
          cases c : isT b []
          all_goals
            unfold isT at c
            have k0 : Hid (Below (w.heap.size + 1) (w.alloc (.cells #[.string nm, .int .i64 4, .string a, .string b, .int .i64 n, .int .i64 wi, .string th, .string el] 75)) (w.alloc (.cells #[.string nm, .int .i64 4, .string a, .string b, .int .i64 n, .int .i64 wi, .string th, .string el] 75))) := Below.refl _ _
            go_enter Tryz.func167, Tryz.ntmps167
            go_wp2_with fail
            refine (phasing_any nm a b th el 4 n wi _).mono ?_; rintro e w1 ⟨rfl, hb1⟩
            have k1 : Hid (Below (w.heap.size + 1) (w.alloc (.cells #[.string nm, .int .i64 4, .string a, .string b, .int .i64 n, .int .i64 wi, .string th, .string el] 75)) w1) := below_of k0.out hb1
            clear hb1
            have x3 := box_at _ _ k1.out 3 (.string b) rfl
            go_wp2_with fail
            go_ret
            exact ⟨rfl, below_end k1.out⟩
        · by_cases h5 : kd = 5
          · subst h5
            have ta := taS_5 a b n wi
            have EW : secB 5 a b = isT b [] := by rfl
            rw [EW]
            clear EW
            cases c : isT b []
            all_goals
              unfold isT at c
              have k0 : Hid (Below (w.heap.size + 1) (w.alloc (.cells #[.string nm, .int .i64 5, .string a, .string b, .int .i64 n, .int .i64 wi, .string th, .string el] 75)) (w.alloc (.cells #[.string nm, .int .i64 5, .string a, .string b, .int .i64 n, .int .i64 wi, .string th, .string el] 75))) := Below.refl _ _
              go_enter Tryz.func167, Tryz.ntmps167
              go_wp2_with fail
              refine (phasing_any nm a b th el 5 n wi _).mono ?_; rintro e w1 ⟨rfl, hb1⟩
              have k1 : Hid (Below (w.heap.size + 1) (w.alloc (.cells #[.string nm, .int .i64 5, .string a, .string b, .int .i64 n, .int .i64 wi, .string th, .string el] 75)) w1) := below_of k0.out hb1
              clear hb1
              have x3 := box_at _ _ k1.out 3 (.string b) rfl
              go_wp2_with fail
              go_ret
              exact ⟨rfl, below_end k1.out⟩
          · have ta := taS_0 a b n wi h1 h2 h3 h4 h5
            have EW : secB kd a b = isT b [] := by unfold secB; rw [if_neg h1, if_neg h2]
            rw [EW]
            clear EW
            cases c : isT b []
            all_goals
              unfold isT at c
              have k0 : Hid (Below (w.heap.size + 1) (w.alloc (.cells #[.string nm, .int .i64 kd, .string a, .string b, .int .i64 n, .int .i64 wi, .string th, .string el] 75)) (w.alloc (.cells #[.string nm, .int .i64 kd, .string a, .string b, .int .i64 n, .int .i64 wi, .string th, .string el] 75))) := Below.refl _ _
              go_enter Tryz.func167, Tryz.ntmps167
              go_wp2_with fail
              refine (phasing_any nm a b th el kd n wi _).mono ?_; rintro e w1 ⟨rfl, hb1⟩
              have k1 : Hid (Below (w.heap.size + 1) (w.alloc (.cells #[.string nm, .int .i64 kd, .string a, .string b, .int .i64 n, .int .i64 wi, .string th, .string el] 75)) w1) := below_of k0.out hb1
              clear hb1
              have x3 := box_at _ _ k1.out 3 (.string b) rfl
              go_wp2_with fail
              go_ret
              exact ⟨rfl, below_end k1.out⟩
set_option maxRecDepth 100000 in
set_option maxHeartbeats 4000000 in
theorem count_any (nm a b th el : ByteArray) (kd n wi : Int) (w : World) :
    Calls Tryz.prog 168 #[.agg #[.string nm, .int .i64 kd, .string a, .string b, .int .i64 n, .int .i64 wi, .string th, .string el]] w fun e w' => e = .returned (.bool (cntB kd n wi)) ∧ Below w.heap.size w w' := by
  by_cases h1 : kd = 1
  · subst h1
    have ta := taC_1 a b n wi
    have hm : ∀ W, (Go.method 388 238 (.agg #[.string a, .int .i64 n, .string b]) "loop.example/malthouse/impl.countOk").run Tryz.prog W = .ok (235, .agg #[.int .i64 n]) W := fun W => by kernel_rfl
    have EW : cntB 1 n wi = (decide (1 ≤ n) && decide (n ≤ 1000)) := rfl
    rw [EW]
    clear EW
    have k0 : Hid (Below (w.heap.size + 1) (w.alloc (.cells #[.string nm, .int .i64 1, .string a, .string b, .int .i64 n, .int .i64 wi, .string th, .string el] 75)) (w.alloc (.cells #[.string nm, .int .i64 1, .string a, .string b, .int .i64 n, .int .i64 wi, .string th, .string el] 75))) := Below.refl _ _
    go_enter Tryz.func168, Tryz.ntmps168
    go_wp2_with fail
    refine (phasing_any nm a b th el 1 n wi _).mono ?_; rintro e w1 ⟨rfl, hb1⟩
    have k1 : Hid (Below (w.heap.size + 1) (w.alloc (.cells #[.string nm, .int .i64 1, .string a, .string b, .int .i64 n, .int .i64 wi, .string th, .string el] 75)) w1) := below_of k0.out hb1
    clear hb1
    go_wp2_with fail
    refine (amount_any n _).mono ?_; rintro e w2 ⟨rfl, hb2⟩
    have k2 : Hid (Below w.heap.size w w2) := below_end (below_of k1.out hb2)
    clear hb2
    go_wp2_with fail
    go_ret
    exact ⟨rfl, k2.out⟩
  · by_cases h2 : kd = 2
    · subst h2
      have ta := taC_2 a b n wi
      have hm : ∀ W, (Go.method 388 240 (.agg #[.int .i64 n, .string a, .string b]) "loop.example/malthouse/impl.countOk").run Tryz.prog W = .ok (235, .agg #[.int .i64 n]) W := fun W => by kernel_rfl
      have EW : cntB 2 n wi = (decide (1 ≤ n) && decide (n ≤ 1000)) := rfl
      rw [EW]
      clear EW
      have k0 : Hid (Below (w.heap.size + 1) (w.alloc (.cells #[.string nm, .int .i64 2, .string a, .string b, .int .i64 n, .int .i64 wi, .string th, .string el] 75)) (w.alloc (.cells #[.string nm, .int .i64 2, .string a, .string b, .int .i64 n, .int .i64 wi, .string th, .string el] 75))) := Below.refl _ _
      go_enter Tryz.func168, Tryz.ntmps168
      go_wp2_with fail
      refine (phasing_any nm a b th el 2 n wi _).mono ?_; rintro e w1 ⟨rfl, hb1⟩
      have k1 : Hid (Below (w.heap.size + 1) (w.alloc (.cells #[.string nm, .int .i64 2, .string a, .string b, .int .i64 n, .int .i64 wi, .string th, .string el] 75)) w1) := below_of k0.out hb1
      clear hb1
      go_wp2_with fail
      refine (amount_any n _).mono ?_; rintro e w2 ⟨rfl, hb2⟩
      have k2 : Hid (Below w.heap.size w w2) := below_end (below_of k1.out hb2)
      clear hb2
      go_wp2_with fail
      go_ret
      exact ⟨rfl, k2.out⟩
    · by_cases h3 : kd = 3
      · subst h3
        have ta := taC_3 a b n wi
        have hm : ∀ W, (Go.method 388 242 (.agg #[.string a, .int .i64 n, .int .i64 wi]) "loop.example/malthouse/impl.countOk").run Tryz.prog W = .ok (239, .agg #[.string a, .int .i64 n, .int .i64 wi]) W := fun W => by kernel_rfl
        have EW : cntB 3 n wi = (decide (1 ≤ n) && decide (n ≤ wi)) := rfl
        rw [EW]
        clear EW
        have k0 : Hid (Below (w.heap.size + 1) (w.alloc (.cells #[.string nm, .int .i64 3, .string a, .string b, .int .i64 n, .int .i64 wi, .string th, .string el] 75)) (w.alloc (.cells #[.string nm, .int .i64 3, .string a, .string b, .int .i64 n, .int .i64 wi, .string th, .string el] 75))) := Below.refl _ _
        go_enter Tryz.func168, Tryz.ntmps168
        go_wp2_with fail
        refine (phasing_any nm a b th el 3 n wi _).mono ?_; rintro e w1 ⟨rfl, hb1⟩
        have k1 : Hid (Below (w.heap.size + 1) (w.alloc (.cells #[.string nm, .int .i64 3, .string a, .string b, .int .i64 n, .int .i64 wi, .string th, .string el] 75)) w1) := below_of k0.out hb1
        clear hb1
        go_wp2_with fail
        refine (holdCnt_any a n wi _).mono ?_; rintro e w2 ⟨rfl, hb2⟩
        have k2 : Hid (Below w.heap.size w w2) := below_end (below_of k1.out hb2)
        clear hb2
        go_wp2_with fail
        go_ret
        exact ⟨rfl, k2.out⟩
      · by_cases h4 : kd = 4
        · subst h4
          have ta := taC_4 a b n wi
          have EW : cntB 4 n wi = (n == 0) := by rfl
          rw [EW]
          clear EW
          have k0 : Hid (Below (w.heap.size + 1) (w.alloc (.cells #[.string nm, .int .i64 4, .string a, .string b, .int .i64 n, .int .i64 wi, .string th, .string el] 75)) (w.alloc (.cells #[.string nm, .int .i64 4, .string a, .string b, .int .i64 n, .int .i64 wi, .string th, .string el] 75))) := Below.refl _ _
          go_enter Tryz.func168, Tryz.ntmps168
          go_wp2_with fail
          refine (phasing_any nm a b th el 4 n wi _).mono ?_; rintro e w1 ⟨rfl, hb1⟩
          have k1 : Hid (Below (w.heap.size + 1) (w.alloc (.cells #[.string nm, .int .i64 4, .string a, .string b, .int .i64 n, .int .i64 wi, .string th, .string el] 75)) w1) := below_of k0.out hb1
          clear hb1
          have x4 := box_at _ _ k1.out 4 (.int .i64 n) rfl
          go_wp2_with fail
          go_ret
          exact ⟨rfl, below_end k1.out⟩
        · by_cases h5 : kd = 5
          · subst h5
            have ta := taC_5 a b n wi
            have EW : cntB 5 n wi = (n == 0) := by rfl
            rw [EW]
            clear EW
            have k0 : Hid (Below (w.heap.size + 1) (w.alloc (.cells #[.string nm, .int .i64 5, .string a, .string b, .int .i64 n, .int .i64 wi, .string th, .string el] 75)) (w.alloc (.cells #[.string nm, .int .i64 5, .string a, .string b, .int .i64 n, .int .i64 wi, .string th, .string el] 75))) := Below.refl _ _
            go_enter Tryz.func168, Tryz.ntmps168
            go_wp2_with fail
            refine (phasing_any nm a b th el 5 n wi _).mono ?_; rintro e w1 ⟨rfl, hb1⟩
            have k1 : Hid (Below (w.heap.size + 1) (w.alloc (.cells #[.string nm, .int .i64 5, .string a, .string b, .int .i64 n, .int .i64 wi, .string th, .string el] 75)) w1) := below_of k0.out hb1
            clear hb1
            have x4 := box_at _ _ k1.out 4 (.int .i64 n) rfl
            go_wp2_with fail
            go_ret
            exact ⟨rfl, below_end k1.out⟩
          · have ta := taC_0 a b n wi h1 h2 h3 h4 h5
            have EW : cntB kd n wi = (n == 0) := by unfold cntB; rw [if_neg (fun h => h.elim h1 h2), if_neg h3]
            rw [EW]
            clear EW
            have k0 : Hid (Below (w.heap.size + 1) (w.alloc (.cells #[.string nm, .int .i64 kd, .string a, .string b, .int .i64 n, .int .i64 wi, .string th, .string el] 75)) (w.alloc (.cells #[.string nm, .int .i64 kd, .string a, .string b, .int .i64 n, .int .i64 wi, .string th, .string el] 75))) := Below.refl _ _
            go_enter Tryz.func168, Tryz.ntmps168
            go_wp2_with fail
            refine (phasing_any nm a b th el kd n wi _).mono ?_; rintro e w1 ⟨rfl, hb1⟩
            have k1 : Hid (Below (w.heap.size + 1) (w.alloc (.cells #[.string nm, .int .i64 kd, .string a, .string b, .int .i64 n, .int .i64 wi, .string th, .string el] 75)) w1) := below_of k0.out hb1
            clear hb1
            have x4 := box_at _ _ k1.out 4 (.int .i64 n) rfl
            go_wp2_with fail
            go_ret
            exact ⟨rfl, below_end k1.out⟩
end Go.Proofs.YtobchllaopdchacGreat
