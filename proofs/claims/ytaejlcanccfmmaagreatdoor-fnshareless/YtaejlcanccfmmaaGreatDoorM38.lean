/-
  Several texts in one.
-/
import Derived.Test.YtaejlcanccfmmaaGreatDoorLy
import Derived.WalkKit
import Derived.LaidEql
import Derived.Stop.Asserts
import Derived.RowKitTokens
import Derived.Test.YtaejlcanccfmmaaGreatDoorZqb
import Derived.Test.YtaejlcanccfmmaaGreatDoorM9
namespace Go.Proofs.YtaejlcanccfmmaaGreatDoor
open Go.RowKit Go.Extern.Stop Go.Stop Go.Extern
abbrev hP : Value := .pointer (some ⟨2, 90, none⟩)
abbrev hE : Value := .pointer (some ⟨2, 88, none⟩)
theorem rl_valueOfP (t : Addr) (w : World) : (ReflectliteValue.unpack (.iface 90 (.pointer (some t)))).run Tryz.prog w
    = .ok (.agg #[hP, .pointer (some ⟨w.heap.size, 0, none⟩), .int .u64 150]) (w.alloc (.cells #[.pointer (some t)] 90)) := by kernel_rfl
theorem rl_typeP (a : Addr) (w : World) : (ReflectliteValue.methodAny (ReflectliteValue.valueError "reflectlite.Value.Type" 0) (fun t _ _ _ => ReflectliteType.toType t) #[.agg #[hP, .pointer (some a), .int .u64 150]]).run Tryz.prog w
    = .ok (.iface 145 (.agg #[hP])) w := by kernel_rfl
theorem rl_mKind (h : Value) (w : World) : (Go.method 312 145 (.agg #[h]) "Kind").run Tryz.prog w = .ok (134, h) w := by kernel_rfl
theorem rl_mElem (h : Value) (w : World) : (Go.method 312 145 (.agg #[h]) "Elem").run Tryz.prog w = .ok (154, .agg #[h]) w := by kernel_rfl
theorem rl_mImpl (h : Value) (w : World) : (Go.method 312 145 (.agg #[h]) "Implements").run Tryz.prog w = .ok (155, .agg #[h]) w := by kernel_rfl
theorem rl_mAss (h : Value) (w : World) : (Go.method 312 145 (.agg #[h]) "AssignableTo").run Tryz.prog w = .ok (152, .agg #[h]) w := by kernel_rfl
theorem rl_kindP (w : World) : ((ReflectliteType.abiMethod fun t => (fun a : Nat => Value.int IntKind.u8 (a : Int)) <$> Rtype.kind t) #[hP]).run Tryz.prog w = .ok (.int .u8 22) w := by kernel_rfl
theorem rl_kindE (w : World) : ((ReflectliteType.abiMethod fun t => (fun a : Nat => Value.int IntKind.u8 (a : Int)) <$> Rtype.kind t) #[hE]).run Tryz.prog w = .ok (.int .u8 25) w := by kernel_rfl
theorem rl_method (z : Sem Value) (f : TypeId → Addr → Nat → Nat → Sem Value) (v : Value) :
    ReflectliteValue.method z f #[v] = (do match ← ReflectliteValue.parts v with | none => z | some (t, a, fl) => f t a fl (fl % 32)) := rfl
theorem rl_partsP (a : Addr) (w : World) : (ReflectliteValue.parts (.agg #[hP, .pointer (some a), .int .u64 150])).run Tryz.prog w = .ok (some (90, a, 150)) w := by kernel_rfl
theorem rl_isNilP (a p : Addr) (W : World) (ha : W.cell? a = some (.pointer (some p))) :
    (ReflectliteValue.method (ReflectliteValue.valueError "reflectlite.Value.IsNil" 0) ReflectliteValue.isNil #[.agg #[hP, .pointer (some a), .int .u64 150]]).run Tryz.prog W = .ok (.bool false) W := by
  rw [rl_method]
  simp only [Sem.run_bind, rl_partsP, Result.andThen]
  simp [ReflectliteValue.isNil, loadVar, isAgg, underlying, Tryz.underlying90, ha, Result.andThen]
theorem rl_elemP (w : World) : (ReflectliteType.method ReflectliteType.elem #[.agg #[hP]]).run Tryz.prog w = .ok (.iface 145 (.agg #[hE])) w := by kernel_rfl
theorem rl_implE (w : World) : (ReflectliteType.relation "Implements" ReflectliteType.implements_ #[.agg #[hE], .iface 145 (.agg #[.pointer (some ⟨2, 64, none⟩)])]).run Tryz.prog w = .ok (.bool true) w := by kernel_rfl
theorem rl_typeOfE (v : Value) (w : World) : (ReflectliteType.typeOf #[.iface 88 v]).run Tryz.prog w = .ok (.iface 145 (.agg #[hE])) w := by kernel_rfl
theorem rl_assE (w : World) : (ReflectliteType.relation "AssignableTo" ReflectliteType.assignableTo #[.agg #[hE], .iface 145 (.agg #[hE])]).run Tryz.prog w = .ok (.bool true) w := by kernel_rfl
theorem rl_valueOfE (c : Int) (w : World) : (ReflectliteValue.unpack (.iface 88 (.agg #[.int .i64 c]))).run Tryz.prog w
    = .ok (.agg #[hE, .pointer (some ⟨w.heap.size, 0, none⟩), .int .u64 153]) (w.alloc (.cells #[.int .i64 c] 88)) := by kernel_rfl
theorem rl_elemOfP (w : World) : (Rtype.elem? 90).run Tryz.prog w = .ok (some 88) w := by kernel_rfl
theorem rl_mkE (p : Addr) (w : World) : (ReflectliteValue.mk 88 p ReflectliteValue.flagAddr).run Tryz.prog w = .ok (.agg #[hE, .pointer (some p), .int .u64 409]) w := by kernel_rfl
theorem rl_elemVP (a p : Addr) (W : World) (ha : W.cell? a = some (.pointer (some p))) :
    (ReflectliteValue.method (ReflectliteValue.valueError "reflectlite.Value.Elem" 0) ReflectliteValue.elem #[.agg #[hP, .pointer (some a), .int .u64 150]]).run Tryz.prog W
      = .ok (.agg #[hE, .pointer (some p), .int .u64 409]) W := by
  rw [rl_method]
  simp only [Sem.run_bind, rl_partsP, Result.andThen]
  simp [ReflectliteValue.elem, loadVar, isAgg, underlying, Tryz.underlying90, ha, Result.andThen, rl_elemOfP, rl_mkE]
theorem rl_partsEa (a : Addr) (w : World) : (ReflectliteValue.parts (.agg #[hE, .pointer (some a), .int .u64 409])).run Tryz.prog w = .ok (some (88, a, 409)) w := by kernel_rfl
theorem rl_partsE (a : Addr) (w : World) : (ReflectliteValue.parts (.agg #[hE, .pointer (some a), .int .u64 153])).run Tryz.prog w = .ok (some (88, a, 153)) w := by kernel_rfl
theorem rl_direct (w : World) : (Rtype.directlyAssignable 88 88).run Tryz.prog w = .ok true w := by kernel_rfl
theorem rl_set (g b : Nat) (c : Int) (old : Value) (W : World) (hb : W.cell? ⟨b, 0, none⟩ = some (.int .i64 c)) (ht : W.cell? ⟨g, 0, none⟩ = some old) (hf : W.frozen? ⟨g, 0, none⟩ = false) :
    (ReflectliteValue.set #[.agg #[hE, .pointer (some ⟨g, 0, none⟩), .int .u64 409], .agg #[hE, .pointer (some ⟨b, 0, none⟩), .int .u64 153]]).run Tryz.prog W
      = .ok (.tuple #[]) (W.setCell ⟨g, 0, none⟩ (.int .i64 c)) := by
  show Sem.run Tryz.prog (Bind.bind (ReflectliteValue.parts (.agg #[hE, .pointer (some ⟨g, 0, none⟩), .int .u64 409])) fun q => Bind.bind (ReflectliteValue.parts (.agg #[hE, .pointer (some ⟨b, 0, none⟩), .int .u64 153])) _) W = _
  have hl : Sem.run Tryz.prog (loadCells ⟨b, 0, none⟩ 1) W = .ok #[.int .i64 c] W := by
    simp [loadCells, loadCellsFrom, Addr.add, hb, Result.andThen]
  simp only [Sem.run_bind, rl_partsEa, rl_partsE, Result.andThen]
  simp [ReflectliteValue.flagAddr, loadVar, hl, Result.andThen, rl_direct, storeVar, Value.cells, storeCells, Addr.add]
  rw [run_store Tryz.prog W ⟨g, 0, none⟩ _ _ (by rfl)]
  simp [ht, hf]
abbrev hR : Value := .pointer (some ⟨2, 194, none⟩)
theorem rl_typeOfR (v : Value) (w : World) : (ReflectliteType.typeOf #[.iface 194 v]).run Tryz.prog w = .ok (.iface 145 (.agg #[hR])) w := by kernel_rfl
theorem rl_assR (w : World) : (ReflectliteType.relation "AssignableTo" ReflectliteType.assignableTo #[.agg #[hR], .iface 145 (.agg #[hE])]).run Tryz.prog w = .ok (.bool false) w := by kernel_rfl
theorem rl_taA (v : Value) (W : World) : (Instr.typeAssert (.iface 194 v) 64 150 true).run Tryz.prog W = .ok (.tuple #[.nilIface, .bool false]) W := run_typeAssert_lacksB Tryz.underlying150 (by kernel_rfl) (by kernel_rfl) _ _ W
theorem rl_taU (v : Value) (W : World) : (Instr.typeAssert (.iface 194 v) 64 153 true).run Tryz.prog W = .ok (.tuple #[.iface 194 v, .bool true]) W := by kernel_rfl
theorem rl_mUnw (nm : ByteArray) (e : Value) (w : World) : (Go.method 312 194 (.agg #[.string nm, e]) "Unwrap").run Tryz.prog w = .ok (163, .agg #[.string nm, e]) w := by kernel_rfl
set_option maxRecDepth 100000 in
set_option maxHeartbeats 4000000 in
theorem as_hit (g : Nat) (nm : ByteArray) (c : Int) (w : World) (hg : w.cell? ⟨0, 0, none⟩ = some (.iface 145 (.agg #[.pointer (some ⟨2, 64, none⟩)]))) (ht : w.heap[g]? = some (.cells #[.int .i64 0] 88 (0, 0))) (hg0 : 0 < w.heap.size) :
    Calls Tryz.prog 49 #[.iface 194 (.agg #[.string nm, .iface 88 (.agg #[.int .i64 c])]), .iface 90 (.pointer (some ⟨g, 0, none⟩))] w fun e w' => e = .returned (.bool true) ∧ w'.cell? ⟨g, 0, none⟩ = some (.int .i64 c) ∧ Below g w w' ∧ (∀ q, q < w.heap.size → q ≠ g → w'.heap[q]? = w.heap[q]?) := by
  have h6 := @run_callFunc_extern Tryz.prog 71 _ (fun args => ReflectliteValue.unpack (args.getD 0 (.tuple #[]))) Tryz.func71 (by kernel_rfl) (by kernel_rfl) (by kernel_rfl) (by kernel_rfl)
  have h7 := @run_callFunc_extern Tryz.prog 72 _ (ReflectliteValue.methodAny (ReflectliteValue.valueError "reflectlite.Value.Type" 0) (fun t _ _ _ => ReflectliteType.toType t)) Tryz.func72 (by kernel_rfl) (by kernel_rfl) (by kernel_rfl) (by kernel_rfl)
  have h8 := @run_callFunc_extern Tryz.prog 73 _ (ReflectliteValue.method (ReflectliteValue.valueError "reflectlite.Value.IsNil" 0) ReflectliteValue.isNil) Tryz.func73 (by kernel_rfl) (by kernel_rfl) (by kernel_rfl) (by kernel_rfl)
  have h27 := @run_callFunc_extern Tryz.prog 134 _ (ReflectliteType.abiMethod fun t => do pure (.int .u8 (← Rtype.kind t))) Tryz.func134 (by kernel_rfl) (by kernel_rfl) (by kernel_rfl) (by kernel_rfl)
  have h37 := @run_callFunc_extern Tryz.prog 154 _ (ReflectliteType.method ReflectliteType.elem) Tryz.func154 (by kernel_rfl) (by kernel_rfl) (by kernel_rfl) (by kernel_rfl)
  have h38 := @run_callFunc_extern Tryz.prog 155 _ (ReflectliteType.relation "Implements" ReflectliteType.implements_) Tryz.func155 (by kernel_rfl) (by kernel_rfl) (by kernel_rfl) (by kernel_rfl)
  have h10 := @run_callFunc_extern Tryz.prog 91 _ ReflectliteType.typeOf Tryz.func91 (by kernel_rfl) (by kernel_rfl) (by kernel_rfl) (by kernel_rfl)
  have h35 := @run_callFunc_extern Tryz.prog 152 _ (ReflectliteType.relation "AssignableTo" ReflectliteType.assignableTo) Tryz.func152 (by kernel_rfl) (by kernel_rfl) (by kernel_rfl) (by kernel_rfl)
  have h11 := @run_callFunc_extern Tryz.prog 92 _ (ReflectliteValue.method (ReflectliteValue.valueError "reflectlite.Value.Elem" 0) ReflectliteValue.elem) Tryz.func92 (by kernel_rfl) (by kernel_rfl) (by kernel_rfl) (by kernel_rfl)
  have h12 := @run_callFunc_extern Tryz.prog 93 _ ReflectliteValue.set Tryz.func93 (by kernel_rfl) (by kernel_rfl) (by kernel_rfl) (by kernel_rfl)
  have tO := rl_typeOfE
  have mA := rl_mAss
  have aE := rl_assE
  have vE := rl_valueOfE
  have f6 := rl_valueOfP
  have f7 := rl_typeP
  have mK := rl_mKind
  have mE := rl_mElem
  have mI := rl_mImpl
  have kP := rl_kindP
  have kE := rl_kindE
  have eP := rl_elemP
  have iE := rl_implE
  have hgl := (Array.getElem?_eq_some_iff.1 ht).1
  obtain ⟨W1, hW1⟩ : ∃ W1, W1 = (w.alloc (.cells #[.pointer (some ⟨g, 0, none⟩)] 90)).alloc (.cells #[hP, .pointer (some ⟨w.heap.size, 0, none⟩), .int .u64 150] 120) := ⟨_, rfl⟩
  have n8 := rl_isNilP ⟨w.heap.size, 0, none⟩ ⟨g, 0, none⟩ ((w.alloc (.cells #[.pointer (some ⟨g, 0, none⟩)] 90)).alloc (.cells #[hP, .pointer (some ⟨w.heap.size, 0, none⟩), .int .u64 150] 120)) (by simp)
  have hg2 : ((w.alloc (.cells #[.pointer (some ⟨g, 0, none⟩)] 90)).alloc (.cells #[hP, .pointer (some ⟨w.heap.size, 0, none⟩), .int .u64 150] 120)).cell? ⟨0, 0, none⟩ = some (.iface 145 (.agg #[.pointer (some ⟨2, 64, none⟩)])) := by
    rw [World.cell?_alloc_lt _ _ ⟨0, 0, none⟩ (by simp), World.cell?_alloc_lt _ _ ⟨0, 0, none⟩ hg0]; exact hg
  have el := rl_elemVP ⟨w.heap.size, 0, none⟩ ⟨g, 0, none⟩ ((((w.alloc (.cells #[.pointer (some ⟨g, 0, none⟩)] 90)).alloc (.cells #[hP, .pointer (some ⟨w.heap.size, 0, none⟩), .int .u64 150] 120)).alloc (.cells #[hP, .pointer (some ⟨w.heap.size, 0, none⟩), .int .u64 150] 120)).alloc (.cells #[.string nm, .iface 88 (.agg #[.int .i64 c])] 194)) (by rw [World.cell?_alloc_lt _ _ ⟨w.heap.size, 0, none⟩ (by simp; omega), World.cell?_alloc_lt _ _ ⟨w.heap.size, 0, none⟩ (by simp; omega)]; simp)
  have st := rl_set g (w.heap.size + 1 + 1 + 1 + 1) c (.int .i64 0) (((((w.alloc (.cells #[.pointer (some ⟨g, 0, none⟩)] 90)).alloc (.cells #[hP, .pointer (some ⟨w.heap.size, 0, none⟩), .int .u64 150] 120)).alloc (.cells #[hP, .pointer (some ⟨w.heap.size, 0, none⟩), .int .u64 150] 120)).alloc (.cells #[.string nm, .iface 88 (.agg #[.int .i64 c])] 194)).alloc (.cells #[.int .i64 c] 88))
    (by rw [World.cell?_alloc_at _ _ _ _ (by simp)]; rfl)
    (by rw [World.cell?_alloc_lt _ _ ⟨g, 0, none⟩ (by simp; omega), World.cell?_alloc_lt _ _ ⟨g, 0, none⟩ (by simp; omega), World.cell?_alloc_lt _ _ ⟨g, 0, none⟩ (by simp; omega), World.cell?_alloc_lt _ _ ⟨g, 0, none⟩ (by simp; omega), World.cell?_alloc_lt _ _ ⟨g, 0, none⟩ hgl]; simp [World.cell?, ht])
    (by rw [World.frozen?_alloc_old _ _ ⟨g, 0, none⟩ (by simp; omega), World.frozen?_alloc_old _ _ ⟨g, 0, none⟩ (by simp; omega), World.frozen?_alloc_old _ _ ⟨g, 0, none⟩ (by simp; omega), World.frozen?_alloc_old _ _ ⟨g, 0, none⟩ (by simp; omega), World.frozen?_alloc_old _ _ ⟨g, 0, none⟩ (Nat.ne_of_lt hgl)]; simp [World.frozen?, ht])
  have tR := rl_typeOfR
  have aR := rl_assR
  have tA := rl_taA
  have tU := rl_taU
  have mU := rl_mUnw
  clear hW1 W1
  go_enter Tryz.func49, Tryz.ntmps49
  go_wp2
  refine wp_loop_rounds 2 ?_
  rw [rounds_succ]
  go_wp2
  rw [rounds_succ]
  go_wp2
  go_ret
  refine ⟨rfl, ?_⟩
  have bA : Below w.heap.size w (((((w.alloc (.cells #[.pointer (some ⟨g, 0, none⟩)] 90)).alloc (.cells #[hP, .pointer (some ⟨w.heap.size, 0, none⟩), .int .u64 150] 120)).alloc (.cells #[hP, .pointer (some ⟨w.heap.size, 0, none⟩), .int .u64 150] 120)).alloc (.cells #[.string nm, .iface 88 (.agg #[.int .i64 c])] 194)).alloc (.cells #[.int .i64 c] 88)) := (((((Below.refl _ _).alloc (Nat.le_refl _) _).alloc (by simp) _).alloc (by simp; omega) _).alloc (by simp; omega) _).alloc (by simp; omega) _
  generalize (((((w.alloc (.cells #[.pointer (some ⟨g, 0, none⟩)] 90)).alloc (.cells #[hP, .pointer (some ⟨w.heap.size, 0, none⟩), .int .u64 150] 120)).alloc (.cells #[hP, .pointer (some ⟨w.heap.size, 0, none⟩), .int .u64 150] 120)).alloc (.cells #[.string nm, .iface 88 (.agg #[.int .i64 c])] 194)).alloc (.cells #[.int .i64 c] 88)) = A at bA ⊢
  have hA := (bA.block g hgl).trans ht
  exact ⟨(cell_row (set_row hA 0 (.int .i64 c)) 0 (.int .i64 c) rfl).1, (bA.mono (Nat.le_of_lt hgl)).setCell (p := ⟨g, 0, none⟩) (Nat.le_refl _) _, fun q hq hne => (Below.heap_setCell A ⟨g, 0, none⟩ _ q hne).trans (bA.block q hq)⟩
def Laid0 (w : World) : Prop := w.cell? ⟨0, 0, none⟩ = some (.iface 145 (.agg #[.pointer (some ⟨2, 64, none⟩)])) ∧ 0 < w.heap.size
theorem Laid0.below {w w' : World} (h : Laid0 w) (hb : Below w.heap.size w w') : Laid0 w' := ⟨(hb.cell (p := ⟨0, 0, none⟩) h.2).trans h.1, Nat.lt_of_lt_of_le h.2 hb.size⟩
def refV (nm : ByteArray) (c : Int) : Value := .iface 194 (.agg #[.string nm, .iface 88 (.agg #[.int .i64 c])])
def errW (nm : ByteArray) (c : Int) : Value := if c = 0 then .nilIface else refV nm c
set_option maxRecDepth 100000 in
set_option maxHeartbeats 4000000 in
theorem codeW_any (nm : ByteArray) (c : Int) (w : World) (hl : Laid0 w) :
    Calls Tryz.prog 33 #[refV nm c] w fun e w' => e = .returned (.int .i64 c) ∧ Below w.heap.size w w' := by
  unfold refV
  have hb : Below w.heap.size w (w.alloc (.cells #[.int .i64 0] 88)) := (Below.refl _ _).alloc (Nat.le_refl _) _
  have hA := as_hit w.heap.size nm c (w.alloc (.cells #[.int .i64 0] 88)) ((hb.cell (p := ⟨0, 0, none⟩) hl.2).trans hl.1) (heap_alloc_new w _) (by simp)
  have HA : Hid _ := hA
  have HB : Hid _ := hb
  clear hA hb
  go_enter Tryz.func33, Tryz.ntmps33
  go_wp2_with fail
  refine Calls.mono HA.out ?_
  rintro e w1 ⟨rfl, hc, hbe, _⟩
  go_wp2_with fail
  go_ret
  exact ⟨rfl, HB.out.trans hbe⟩
set_option maxRecDepth 100000 in
theorem refused_any (nm : ByteArray) (c : Int) (w : World) :
    Calls Tryz.prog 139 #[.string nm, .int .i64 c] w fun e w' => e = .returned (refV nm c) ∧ w' = w := by
  unfold refV
  go_enter Tryz.func139, Tryz.ntmps139
  go_wp2
  go_ret
  exact ⟨rfl, rfl⟩
end Go.Proofs.YtaejlcanccfmmaaGreatDoor

namespace Go.Proofs.YtaejlcanccfmmaaGreatDoor
open Go.RowKit Go.Sort
theorem errW_no (nm : ByteArray) : errW nm 0 = .nilIface := by unfold errW; rw [if_pos rfl]
theorem errW_yes (nm : ByteArray) {c : Int} (h : c ≠ 0) : errW nm c = .iface 194 (.agg #[.string nm, .iface 88 (.agg #[.int .i64 c])]) := by unfold errW; rw [if_neg h]; rfl
def AnsW (w : World) (R : DShareBook) (code : Int) (e : Ending) (w' : World) : Prop := ∃ r0 r1 L, e = .returned (.tuple #[.agg #[r0, r1], .int .i64 code]) ∧ PkO w.heap.size w' r0 r1 R.1 L ∧ L.map dH = R.2 ∧ Below w.heap.size w w'
def BehW (w : World) (R : DShareBook) (e : Ending) (w' : World) : Prop := ∃ r0 r1 L, e = .returned (.agg #[r0, r1]) ∧ PkO w.heap.size w' r0 r1 R.1 L ∧ L.map dH = R.2 ∧ Below w.heap.size w w'
theorem PkO.box {B : Nat} {w w' : World} {v0 v1 : Value} {T : List ByteArray} {L : List HB} {gx : Nat} (h : PkO B w v0 v1 T L) (hg : gx < B) (hk : ∀ b, b ≠ gx → w'.heap[b]? = w.heap[b]?) : PkO B w' v0 v1 T L := by
  have kp : ∀ (q : Nat), B ≤ q → w'.heap[q]? = w.heap[q]? := fun q hq => hk q (by omega)
  have ks : ∀ {v : Value} {l : List ByteArray}, Row w B 9 1 eS v l → Row w' B 9 1 eS v l := fun hr => Row.block hr fun q hq => kp q (World.ownsRow.lt hr q hq).1
  exact ⟨ks h.th, h.zt, ⟨Row.block h.bs.ro fun q hq => kp q (World.ownsRow.lt h.bs.ro q hq).1, fun x hx => ⟨ks (h.bs.el x hx).h, ks (h.bs.el x hx).n, (h.bs.el x hx).z, (h.bs.el x hx).zh, (h.bs.el x hx).zn⟩⟩, h.nd⟩
theorem box2_put {W : World} {g : Nat} {x0 x1 a b : Value} (h : W.heap[g]? = some (.cells #[x0, x1] 26 (0, 0))) : ((W.setCell ⟨g, 0, none⟩ a).setCell ⟨g, 1, none⟩ b).heap[g]? = some (.cells #[a, b] 26 (0, 0)) ∧ (∀ q, q ≠ g → ((W.setCell ⟨g, 0, none⟩ a).setCell ⟨g, 1, none⟩ b).heap[q]? = W.heap[q]?) ∧ Below g W ((W.setCell ⟨g, 0, none⟩ a).setCell ⟨g, 1, none⟩ b) :=
  ⟨by rw [set_row (set_row h 0 a) 1 b]; rfl, fun q hq => (Below.heap_setCell _ _ _ _ hq).trans (Below.heap_setCell _ _ _ _ hq), ((Below.refl _ _).setCell (p := ⟨g, 0, none⟩) (Nat.le_refl _) a).setCell (p := ⟨g, 1, none⟩) (Nat.le_refl _) b⟩
end Go.Proofs.YtaejlcanccfmmaaGreatDoor
