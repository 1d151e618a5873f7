/-
  A book of the call's own: its lists, and those of its vessels and outs, each in a block of its own.
-/
import Derived.Test.YthleodbbppgadaaGreatNa
import Derived.Test.YthleodbbppgadaaGreatLm
namespace Go.Proofs.YthleodbbppgadaaGreat
open Go.RowKit

def eS (a : ByteArray) (_ : Nat) : Value := .string a
def eI (a : Int) (_ : Nat) : Value := .int .i64 a
def eP (p : DStuffPart) (j : Nat) : Value := if j = 0 then .string p.1 else .int .i64 p.2
def eF (p : ByteArray × ByteArray) (j : Nat) : Value := if j = 0 then .string p.1 else .string p.2
abbrev OkS (a : ByteArray) : Prop := a.size ≤ maxLen
abbrev OkI (a : Int) : Prop := -9223372036854775808 ≤ a ∧ a ≤ 9223372036854775807
abbrev OkP (p : DStuffPart) : Prop := p.1.size ≤ maxLen ∧ OkI p.2
abbrev OkF (p : ByteArray × ByteArray) : Prop := p.1.size ≤ maxLen ∧ p.2.size ≤ maxLen
theorem flatS : Flat 1 eS OkS := ⟨rfl, fun h => ⟨fun j hj => by obtain rfl : j = 0 := (by omega); exact h.1, h.2⟩, fun h => ⟨rfl, h⟩, fun _ _ => rfl⟩
theorem flatI : Flat 1 eI OkI := ⟨rfl, fun h => ⟨fun j hj => by obtain rfl : j = 0 := (by omega); exact h.1, h.2⟩, fun h => ⟨rfl, h⟩, fun _ _ => rfl⟩
theorem flatP : Flat 2 eP OkP := ⟨rfl, fun {S w a c} h => by
  rw [at_DStuffPart] at h
  refine ⟨fun j hj => ?_, h.1.2, h.2.2⟩
  rcases (show j = 0 ∨ j = 1 by omega) with rfl | rfl
  · exact h.1.1
  · exact h.2.1, fun h => at_DStuffPart.2 ⟨⟨rfl, h.1⟩, rfl, h.2⟩, fun a j => by unfold eP; split <;> rfl⟩
theorem flatF : Flat 2 eF OkF := ⟨rfl, fun {S w a c} h => by
  rw [at_DStuffFoe] at h
  refine ⟨fun j hj => ?_, h.1.2, h.2.2⟩
  rcases (show j = 0 ∨ j = 1 by omega) with rfl | rfl
  · exact h.1.1
  · exact h.2.1, fun h => at_DStuffFoe.2 ⟨⟨rfl, h.1⟩, rfl, h.2⟩, fun a j => by unfold eF; split <;> rfl⟩

theorem infS : (Tryz.prog.info? 9).map (fun i => (i.zero, i.size, i.bytes)) = some (some (.string ByteArray.empty), 1, 16) := by kernel_rfl
theorem infI : (Tryz.prog.info? 3).map (fun i => (i.zero, i.size, i.bytes)) = some (some (.int .i64 0), 1, 8) := by kernel_rfl
theorem infP : (Tryz.prog.info? 107).map (fun i => (i.zero, i.size, i.bytes)) = some (some (.agg #[.string ByteArray.empty, .int .i64 0]), 2, 24) := by kernel_rfl
theorem infF : (Tryz.prog.info? 93).map (fun i => (i.zero, i.size, i.bytes)) = some (some (.agg #[.string ByteArray.empty, .string ByteArray.empty]), 2, 32) := by kernel_rfl
theorem infL : (Tryz.prog.info? 95).map (fun i => (i.zero, i.size, i.bytes)) = some (some (.agg #[.string ByteArray.empty, .string ByteArray.empty]), 2, 32) := by kernel_rfl
theorem infV : (Tryz.prog.info? 53).map (fun i => (i.zero, i.size, i.bytes)) = some (some (.agg #[.string ByteArray.empty, .int .i64 0, .slice none 0 0, .slice none 0 0]), 4, 72) := by kernel_rfl
theorem infO : (Tryz.prog.info? 55).map (fun i => (i.zero, i.size, i.bytes)) = some (some (.agg #[.string ByteArray.empty, .slice none 0 0, .slice none 0 0]), 3, 64) := by kernel_rfl
theorem elS : ElT Tryz.prog 29 9 1 16 := by
  obtain ⟨i0, hi, hz0, hz1, hz2⟩ := info_parts infS
  exact ⟨by kernel_rfl, ⟨i0, _, hi, hz0, hz1, hz2, rfl⟩, by decide⟩
theorem elI : ElT Tryz.prog 190 3 1 8 := by
  obtain ⟨i0, hi, hz0, hz1, hz2⟩ := info_parts infI
  exact ⟨by kernel_rfl, ⟨i0, _, hi, hz0, hz1, hz2, rfl⟩, by decide⟩
theorem elP : ElT Tryz.prog 51 107 2 24 := by
  obtain ⟨i0, hi, hz0, hz1, hz2⟩ := info_parts infP
  exact ⟨by kernel_rfl, ⟨i0, _, hi, hz0, hz1, hz2, rfl⟩, by decide⟩
theorem elF : ElT Tryz.prog 31 93 2 32 := by
  obtain ⟨i0, hi, hz0, hz1, hz2⟩ := info_parts infF
  exact ⟨by kernel_rfl, ⟨i0, _, hi, hz0, hz1, hz2, rfl⟩, by decide⟩
theorem elL : ElT Tryz.prog 32 95 2 32 := by
  obtain ⟨i0, hi, hz0, hz1, hz2⟩ := info_parts infL
  exact ⟨by kernel_rfl, ⟨i0, _, hi, hz0, hz1, hz2, rfl⟩, by decide⟩
theorem elV : ElT Tryz.prog 33 53 4 72 := by
  obtain ⟨i0, hi, hz0, hz1, hz2⟩ := info_parts infV
  exact ⟨by kernel_rfl, ⟨i0, _, hi, hz0, hz1, hz2, rfl⟩, by decide⟩
theorem elO : ElT Tryz.prog 34 55 3 64 := by
  obtain ⟨i0, hi, hz0, hz1, hz2⟩ := info_parts infO
  exact ⟨by kernel_rfl, ⟨i0, _, hi, hz0, hz1, hz2, rfl⟩, by decide⟩

/-- No two of some lists lie in one block. -/
def NoTwo (a b : Value) : Prop := ∀ g, a.ownBlock = some g → b.ownBlock ≠ some g
theorem NoTwo.symm {a b : Value} (h : NoTwo a b) : NoTwo b a := fun g h1 h2 => h g h2 h1
abbrev Sep (l : List Value) : Prop := l.Pairwise NoTwo
theorem Sep.ne {l : List Value} (h : Sep l) {i j : Nat} (hi : i < l.length) (hj : j < l.length) (e : i ≠ j) : NoTwo l[i] l[j] := by
  rcases Nat.lt_or_gt_of_ne e with h1 | h1
  · exact List.pairwise_iff_getElem.1 h i j hi hj h1
  · exact (List.pairwise_iff_getElem.1 h j i hj hi h1).symm
theorem Sep.perm {l m : List Value} (h : Sep l) (p : l.Perm m) : Sep m := (p.pairwise_iff (fun h => h.symm)).1 h
theorem Sep.new {l : List Value} (h : Sep l) {v : Value} (hv : ∀ x ∈ l, NoTwo v x) : Sep (v :: l) := List.pairwise_cons.2 ⟨hv, h⟩
theorem Sep.of_set {l : List Value} (h : Sep l) {i : Nat} {v : Value} (hv : ∀ j (hj : j < l.length), j ≠ i → NoTwo v l[j]) : Sep (l.set i v) := by
  refine List.pairwise_iff_getElem.2 fun a b ha hb hab => ?_
  rw [List.length_set] at ha hb
  simp only [List.getElem_set]
  by_cases e1 : i = a
  · rw [if_pos e1, if_neg (by omega)]; exact hv b hb (by omega)
  · rw [if_neg e1]
    by_cases e2 : i = b
    · rw [if_pos e2]; exact (hv a ha (by omega)).symm
    · rw [if_neg e2]; exact Sep.ne h ha hb (by omega)

/-- A vessel, and the heads of its two lists; what was taken out, the same. -/
structure VH where
  n : ByteArray
  c : Int
  p : List DStuffPart
  m : List ByteArray
  pv : Value
  mv : Value
structure OH where
  n : ByteArray
  p : List DStuffPart
  m : List ByteArray
  pv : Value
  mv : Value
def VH.d (h : VH) : DStuffVessel := (h.n, h.c, h.p, h.m)
def OH.d (h : OH) : DStuffOut := (h.n, h.p, h.m)
def eV (h : VH) (j : Nat) : Value := if j = 0 then .string h.n else if j = 1 then .int .i64 h.c else if j = 2 then h.pv else h.mv
def eO (h : OH) (j : Nat) : Value := if j = 0 then .string h.n else if j = 1 then h.pv else h.mv
def pvs (V : List VH) (O : List OH) : List Value := V.map VH.pv ++ O.map OH.pv
def mvs (V : List VH) (O : List OH) : List Value := V.map VH.mv ++ O.map OH.mv
structure OkV (h : VH) : Prop where
  n : OkS h.n
  c : OkI h.c
  p : ∀ x ∈ h.p, OkP x
  m : ∀ x ∈ h.m, OkS x
structure OkO (h : OH) : Prop where
  n : OkS h.n
  p : ∀ x ∈ h.p, OkP x
  m : ∀ x ∈ h.m, OkS x

/-- The lists of a vessel, or of an out, lie where they are said to lie. -/
structure HasV (B : Nat) (w : World) (h : VH) : Prop where
  p : Row w B 107 2 eP h.pv h.p
  m : Row w B 9 1 eS h.mv h.m
  ok : OkV h
structure HasO (B : Nat) (w : World) (h : OH) : Prop where
  p : Row w B 107 2 eP h.pv h.p
  m : Row w B 9 1 eS h.mv h.m
  ok : OkO h

structure BookO (B : Nat) (w : World) (c : Nat → Value) (F : List DStuffFoe) (L : List DStuffLot) (V : List VH) (O : List OH) : Prop where
  f : Row w B 93 2 eF (c 0) F
  l : Row w B 95 2 eF (c 1) L
  v : Row w B 53 4 eV (c 2) V
  o : Row w B 55 3 eO (c 3) O
  hv : ∀ h ∈ V, HasV B w h
  ho : ∀ h ∈ O, HasO B w h
  pd : Sep (pvs V O)
  md : Sep (mvs V O)
  okf : ∀ x ∈ F, OkF x
  okl : ∀ x ∈ L, OkF x

theorem HasV.below {B : Nat} {w w' : World} {h : VH} (H : HasV B w h) (hb : Below w.heap.size w w') : HasV B w' h := ⟨Row.below H.p hb, Row.below H.m hb, H.ok⟩
theorem HasO.below {B : Nat} {w w' : World} {h : OH} (H : HasO B w h) (hb : Below w.heap.size w w') : HasO B w' h := ⟨Row.below H.p hb, Row.below H.m hb, H.ok⟩
theorem BookO.below {B : Nat} {w w' : World} {c : Nat → Value} {F : List DStuffFoe} {L : List DStuffLot} {V : List VH} {O : List OH} (h : BookO B w c F L V O) (hb : Below w.heap.size w w') : BookO B w' c F L V O :=
  ⟨Row.below h.f hb, Row.below h.l hb, Row.below h.v hb, Row.below h.o hb, fun x hx => (h.hv x hx).below hb, fun x hx => (h.ho x hx).below hb, h.pd, h.md, h.okf, h.okl⟩

theorem HasV.at_ {B : Nat} {w : World} {h : VH} (H : HasV B w h) {S : Nat → Prop} (hS : ∀ b, B ≤ b → b < w.heap.size → S b) : Lay.At S w h.d (eV h) :=
  at_DStuffVessel.2 ⟨⟨rfl, H.ok.n⟩, ⟨rfl, H.ok.c⟩, flatP.row_at H.p (fun g hg => hS g (World.ownsRow.lt H.p g hg).1 (World.ownsRow.lt H.p g hg).2) H.ok.p, flatS.row_at H.m (fun g hg => hS g (World.ownsRow.lt H.m g hg).1 (World.ownsRow.lt H.m g hg).2) H.ok.m⟩
theorem HasO.at_ {B : Nat} {w : World} {h : OH} (H : HasO B w h) {S : Nat → Prop} (hS : ∀ b, B ≤ b → b < w.heap.size → S b) : Lay.At S w h.d (eO h) :=
  at_DStuffOut.2 ⟨⟨rfl, H.ok.n⟩, flatP.row_at H.p (fun g hg => hS g (World.ownsRow.lt H.p g hg).1 (World.ownsRow.lt H.p g hg).2) H.ok.p, flatS.row_at H.m (fun g hg => hS g (World.ownsRow.lt H.m g hg).1 (World.ownsRow.lt H.m g hg).2) H.ok.m⟩
/-- A book of the call's own as data. -/
theorem BookO.at_ {B : Nat} {w : World} {c : Nat → Value} {F : List DStuffFoe} {L : List DStuffLot} {V : List VH} {O : List OH} (h : BookO B w c F L V O) {S : Nat → Prop} (hS : ∀ b, B ≤ b → b < w.heap.size → S b) : Lay.At S w ((F, L, V.map VH.d, O.map OH.d) : DStuffBook) c :=
  at_DStuffBook.2 ⟨flatF.row_at h.f (fun g hg => hS g (World.ownsRow.lt h.f g hg).1 (World.ownsRow.lt h.f g hg).2) h.okf, flatF.row_at h.l (fun g hg => hS g (World.ownsRow.lt h.l g hg).1 (World.ownsRow.lt h.l g hg).2) h.okl,
    Row.at_ h.v VH.d rfl (fun g hg => hS g (World.ownsRow.lt h.v g hg).1 (World.ownsRow.lt h.v g hg).2) (fun x hx => (h.hv x hx).at_ hS),
    Row.at_ h.o OH.d rfl (fun g hg => hS g (World.ownsRow.lt h.o g hg).1 (World.ownsRow.lt h.o g hg).2) (fun x hx => (h.ho x hx).at_ hS)⟩

/-- A block's type. -/
def Ty (w : World) (b : Nat) (t : TypeId) : Prop := ∃ cur, w.heap[b]? = some (.cells cur t (0, 0))
theorem Ty.one {w : World} {b : Nat} {t t' : TypeId} (h : Ty w b t) (h' : Ty w b t') : t = t' := by
  obtain ⟨c, hc⟩ := h
  obtain ⟨c', hc'⟩ := h'
  rw [hc] at hc'
  injection hc' with h1; injection h1
theorem flat_on {α : Type} [Own α] {k : Nat} {e : α → Nat → Value} {ok : α → Prop} (F : Flat k e ok) (hon : ∀ {w : World} {a : α}, ok a → Own.On (fun _ => False) w a (e a)) {w : World} {B : Nat} {t : TypeId} {v : Value} {l : List α} (h : Row w B t k e v l) {S : Nat → Prop} (hS : ∀ g, v.ownBlock = some g → S g) (hok : ∀ x ∈ l, ok x) : OnL S w l v := by
  have := Row.on h id F.wid hS (fun _ _ => False) (fun _ _ h => h.elim) (fun _ _ _ h => h.elim) (fun i hi => hon (hok _ (List.getElem_mem hi)))
  rwa [List.map_id] at this
theorem onS {w : World} {B : Nat} {t : TypeId} {v : Value} {l : List ByteArray} (h : Row w B t 1 eS v l) {S : Nat → Prop} (hS : ∀ g, v.ownBlock = some g → S g) (hok : ∀ x ∈ l, OkS x) : OnL S w l v := flat_on flatS (fun h => ⟨rfl, h⟩) h hS hok
theorem onP {w : World} {B : Nat} {t : TypeId} {v : Value} {l : List DStuffPart} (h : Row w B t 2 eP v l) {S : Nat → Prop} (hS : ∀ g, v.ownBlock = some g → S g) (hok : ∀ x ∈ l, OkP x) : OnL S w l v := flat_on flatP (fun h => on_DStuffPart.2 ⟨fun _ => False, fun _ => False, fun _ h => h.elim, fun _ h => h.elim, ⟨rfl, h.1⟩, rfl, h.2⟩) h hS hok
theorem onF {w : World} {B : Nat} {t : TypeId} {v : Value} {l : List (ByteArray × ByteArray)} (h : Row w B t 2 eF v l) {S : Nat → Prop} (hS : ∀ g, v.ownBlock = some g → S g) (hok : ∀ x ∈ l, OkF x) : OnL S w l v := flat_on flatF (fun h => on_DStuffFoe.2 ⟨fun _ => False, fun _ => False, fun _ h => h.elim, fun _ h => h.elim, ⟨rfl, h.1⟩, rfl, h.2⟩) h hS hok

theorem nePS : ¬ (107 : Nat) = 9 := by decide
theorem HasV.on {B : Nat} {w : World} {h : VH} (H : HasV B w h) : Own.On (fun b => h.pv.ownBlock = some b ∨ h.mv.ownBlock = some b) w h.d (eV h) :=
  on_DStuffVessel.2 ⟨fun _ => False, _, fun _ h => h.elim, fun _ h => h, ⟨rfl, H.ok.n⟩, fun _ => False, _, fun _ h => h.elim, fun _ h => h, ⟨rfl, H.ok.c⟩, fun b => h.pv.ownBlock = some b, fun b => h.mv.ownBlock = some b, fun b hb => ⟨.inl hb, fun hb' => nePS (Ty.one (Row.typed H.p b hb) (Row.typed H.m b hb'))⟩, fun _ hb => .inr hb, onP H.p (fun _ hg => hg) H.ok.p, onS H.m (fun _ hg => hg) H.ok.m⟩
theorem HasO.on {B : Nat} {w : World} {h : OH} (H : HasO B w h) : Own.On (fun b => h.pv.ownBlock = some b ∨ h.mv.ownBlock = some b) w h.d (eO h) :=
  on_DStuffOut.2 ⟨fun _ => False, _, fun _ h => h.elim, fun _ h => h, ⟨rfl, H.ok.n⟩, fun b => h.pv.ownBlock = some b, fun b => h.mv.ownBlock = some b, fun b hb => ⟨.inl hb, fun hb' => nePS (Ty.one (Row.typed H.p b hb) (Row.typed H.m b hb'))⟩, fun _ hb => .inr hb, onP H.p (fun _ hg => hg) H.ok.p, onS H.m (fun _ hg => hg) H.ok.m⟩

section
variable {B : Nat} {w : World} {c : Nat → Value} {F : List DStuffFoe} {L : List DStuffLot} {V : List VH} {O : List OH}
theorem pvs_v {i : Nat} (h : i < V.length) : ∃ q : i < (pvs V O).length, (pvs V O)[i] = V[i].pv := ⟨by simp [pvs]; omega, by simp [pvs, h]⟩
theorem pvs_o {i : Nat} (h : i < O.length) : ∃ q : V.length + i < (pvs V O).length, (pvs V O)[V.length + i] = O[i].pv := ⟨by simp [pvs]; omega, by simp [pvs, List.getElem_append_right]⟩
theorem mvs_v {i : Nat} (h : i < V.length) : ∃ q : i < (mvs V O).length, (mvs V O)[i] = V[i].mv := ⟨by simp [mvs]; omega, by simp [mvs, h]⟩
theorem mvs_o {i : Nat} (h : i < O.length) : ∃ q : V.length + i < (mvs V O).length, (mvs V O)[V.length + i] = O[i].mv := ⟨by simp [mvs]; omega, by simp [mvs, List.getElem_append_right]⟩
theorem BookO.pvv (h : BookO B w c F L V O) {i j : Nat} (hi : i < V.length) (hj : j < V.length) (e : i ≠ j) : NoTwo V[i].pv V[j].pv := by
  obtain ⟨q1, e1⟩ := pvs_v (O := O) hi; obtain ⟨q2, e2⟩ := pvs_v (O := O) hj
  rw [← e1, ← e2]; exact Sep.ne h.pd q1 q2 e
theorem BookO.poo (h : BookO B w c F L V O) {i j : Nat} (hi : i < O.length) (hj : j < O.length) (e : i ≠ j) : NoTwo O[i].pv O[j].pv := by
  obtain ⟨q1, e1⟩ := pvs_o (V := V) hi; obtain ⟨q2, e2⟩ := pvs_o (V := V) hj
  rw [← e1, ← e2]; exact Sep.ne h.pd q1 q2 (by omega)
theorem BookO.pvo (h : BookO B w c F L V O) {i j : Nat} (hi : i < V.length) (hj : j < O.length) : NoTwo V[i].pv O[j].pv := by
  obtain ⟨q1, e1⟩ := pvs_v (O := O) hi; obtain ⟨q2, e2⟩ := pvs_o (V := V) hj
  rw [← e1, ← e2]; exact Sep.ne h.pd q1 q2 (by omega)
theorem BookO.mvv (h : BookO B w c F L V O) {i j : Nat} (hi : i < V.length) (hj : j < V.length) (e : i ≠ j) : NoTwo V[i].mv V[j].mv := by
  obtain ⟨q1, e1⟩ := mvs_v (O := O) hi; obtain ⟨q2, e2⟩ := mvs_v (O := O) hj
  rw [← e1, ← e2]; exact Sep.ne h.md q1 q2 e
theorem BookO.moo (h : BookO B w c F L V O) {i j : Nat} (hi : i < O.length) (hj : j < O.length) (e : i ≠ j) : NoTwo O[i].mv O[j].mv := by
  obtain ⟨q1, e1⟩ := mvs_o (V := V) hi; obtain ⟨q2, e2⟩ := mvs_o (V := V) hj
  rw [← e1, ← e2]; exact Sep.ne h.md q1 q2 (by omega)
theorem BookO.mvo (h : BookO B w c F L V O) {i j : Nat} (hi : i < V.length) (hj : j < O.length) : NoTwo V[i].mv O[j].mv := by
  obtain ⟨q1, e1⟩ := mvs_v (O := O) hi; obtain ⟨q2, e2⟩ := mvs_o (V := V) hj
  rw [← e1, ← e2]; exact Sep.ne h.md q1 q2 (by omega)

theorem neFL : ¬ (93 : Nat) = 95 := by decide
theorem neFV : ¬ (93 : Nat) = 53 := by decide
theorem neFO : ¬ (93 : Nat) = 55 := by decide
theorem neFP : ¬ (93 : Nat) = 107 := by decide
theorem neFS : ¬ (93 : Nat) = 9 := by decide
theorem neLV : ¬ (95 : Nat) = 53 := by decide
theorem neLO : ¬ (95 : Nat) = 55 := by decide
theorem neLP : ¬ (95 : Nat) = 107 := by decide
theorem neLS : ¬ (95 : Nat) = 9 := by decide
theorem neVO : ¬ (53 : Nat) = 55 := by decide
theorem neVP : ¬ (53 : Nat) = 107 := by decide
theorem neVS : ¬ (53 : Nat) = 9 := by decide
theorem neOP : ¬ (55 : Nat) = 107 := by decide
theorem neOS : ¬ (55 : Nat) = 9 := by decide

/-- The blocks of vessels, and of outs. -/
def blV (c : Nat → Value) (V : List VH) (b : Nat) : Prop := (c 2).ownBlock = some b ∨ ∃ h ∈ V, h.pv.ownBlock = some b ∨ h.mv.ownBlock = some b
def blO (c : Nat → Value) (O : List OH) (b : Nat) : Prop := (c 3).ownBlock = some b ∨ ∃ h ∈ O, h.pv.ownBlock = some b ∨ h.mv.ownBlock = some b
theorem BookO.tyV (h : BookO B w c F L V O) {b : Nat} (hb : blV c V b) : Ty w b 53 ∨ Ty w b 107 ∨ Ty w b 9 := by
  rcases hb with hb | ⟨x, hx, hb | hb⟩
  · exact .inl (Row.typed h.v b hb)
  · exact .inr (.inl (Row.typed (h.hv x hx).p b hb))
  · exact .inr (.inr (Row.typed (h.hv x hx).m b hb))
theorem BookO.tyO (h : BookO B w c F L V O) {b : Nat} (hb : blO c O b) : Ty w b 55 ∨ Ty w b 107 ∨ Ty w b 9 := by
  rcases hb with hb | ⟨x, hx, hb | hb⟩
  · exact .inl (Row.typed h.o b hb)
  · exact .inr (.inl (Row.typed (h.ho x hx).p b hb))
  · exact .inr (.inr (Row.typed (h.ho x hx).m b hb))
theorem BookO.inV (h : BookO B w c F L V O) {b : Nat} (hb : blV c V b) : B ≤ b ∧ b < w.heap.size := by
  rcases hb with hb | ⟨x, hx, hb | hb⟩
  · exact World.ownsRow.lt h.v b hb
  · exact World.ownsRow.lt (h.hv x hx).p b hb
  · exact World.ownsRow.lt (h.hv x hx).m b hb
theorem BookO.inO (h : BookO B w c F L V O) {b : Nat} (hb : blO c O b) : B ≤ b ∧ b < w.heap.size := by
  rcases hb with hb | ⟨x, hx, hb | hb⟩
  · exact World.ownsRow.lt h.o b hb
  · exact World.ownsRow.lt (h.ho x hx).p b hb
  · exact World.ownsRow.lt (h.ho x hx).m b hb
theorem BookO.sepVO (h : BookO B w c F L V O) {b : Nat} (hb : blV c V b) : ¬ blO c O b := by
  intro hb'
  rcases hb with h1 | ⟨x, hx, h1 | h1⟩
  · have t1 := Row.typed h.v b h1
    rcases h.tyO hb' with t2 | t2 | t2
    · exact neVO (Ty.one t1 t2)
    · exact neVP (Ty.one t1 t2)
    · exact neVS (Ty.one t1 t2)
  · have t1 := Row.typed (h.hv x hx).p b h1
    rcases hb' with h2 | ⟨y, hy, h2 | h2⟩
    · exact neOP (Ty.one (Row.typed h.o b h2) t1)
    · obtain ⟨i, hi, rfl⟩ := List.getElem_of_mem hx
      obtain ⟨j, hj, rfl⟩ := List.getElem_of_mem hy
      exact h.pvo hi hj b h1 h2
    · exact nePS (Ty.one t1 (Row.typed (h.ho y hy).m b h2))
  · have t1 := Row.typed (h.hv x hx).m b h1
    rcases hb' with h2 | ⟨y, hy, h2 | h2⟩
    · exact neOS (Ty.one (Row.typed h.o b h2) t1)
    · exact nePS (Ty.one (Row.typed (h.ho y hy).p b h2) t1)
    · obtain ⟨i, hi, rfl⟩ := List.getElem_of_mem hx
      obtain ⟨j, hj, rfl⟩ := List.getElem_of_mem hy
      exact h.mvo hi hj b h1 h2

theorem BookO.onV (h : BookO B w c F L V O) : OnL (blV c V) w (V.map VH.d) (c 2) := by
  refine Row.on h.v VH.d rfl (fun g hg => .inl hg) (fun i b => ∃ q : i < V.length, V[i].pv.ownBlock = some b ∨ V[i].mv.ownBlock = some b) ?_ ?_ ?_
  · rintro i b ⟨q, hb⟩
    refine ⟨.inr ⟨_, List.getElem_mem q, hb⟩, fun e => ?_⟩
    have t1 := Row.typed h.v b e
    rcases hb with hb | hb
    · exact neVP (Ty.one t1 (Row.typed (h.hv _ (List.getElem_mem q)).p b hb))
    · exact neVS (Ty.one t1 (Row.typed (h.hv _ (List.getElem_mem q)).m b hb))
  · rintro i j b ⟨q1, h1⟩ ⟨q2, h2⟩
    by_cases e : i = j
    · exact e
    · exfalso
      rcases h1 with h1 | h1 <;> rcases h2 with h2 | h2
      · exact h.pvv q1 q2 e b h1 h2
      · exact nePS (Ty.one (Row.typed (h.hv _ (List.getElem_mem q1)).p b h1) (Row.typed (h.hv _ (List.getElem_mem q2)).m b h2))
      · exact nePS (Ty.one (Row.typed (h.hv _ (List.getElem_mem q2)).p b h2) (Row.typed (h.hv _ (List.getElem_mem q1)).m b h1))
      · exact h.mvv q1 q2 e b h1 h2
  · intro i hi
    exact Own.on_up (h.hv _ (List.getElem_mem hi)).on (fun b hb => ⟨hi, hb⟩)
theorem BookO.onO (h : BookO B w c F L V O) : OnL (blO c O) w (O.map OH.d) (c 3) := by
  refine Row.on h.o OH.d rfl (fun g hg => .inl hg) (fun i b => ∃ q : i < O.length, O[i].pv.ownBlock = some b ∨ O[i].mv.ownBlock = some b) ?_ ?_ ?_
  · rintro i b ⟨q, hb⟩
    refine ⟨.inr ⟨_, List.getElem_mem q, hb⟩, fun e => ?_⟩
    have t1 := Row.typed h.o b e
    rcases hb with hb | hb
    · exact neOP (Ty.one t1 (Row.typed (h.ho _ (List.getElem_mem q)).p b hb))
    · exact neOS (Ty.one t1 (Row.typed (h.ho _ (List.getElem_mem q)).m b hb))
  · rintro i j b ⟨q1, h1⟩ ⟨q2, h2⟩
    by_cases e : i = j
    · exact e
    · exfalso
      rcases h1 with h1 | h1 <;> rcases h2 with h2 | h2
      · exact h.poo q1 q2 e b h1 h2
      · exact nePS (Ty.one (Row.typed (h.ho _ (List.getElem_mem q1)).p b h1) (Row.typed (h.ho _ (List.getElem_mem q2)).m b h2))
      · exact nePS (Ty.one (Row.typed (h.ho _ (List.getElem_mem q2)).p b h2) (Row.typed (h.ho _ (List.getElem_mem q1)).m b h1))
      · exact h.moo q1 q2 e b h1 h2
  · intro i hi
    exact Own.on_up (h.ho _ (List.getElem_mem hi)).on (fun b hb => ⟨hi, hb⟩)

/-- A book of the call's own owns its memory. -/
theorem BookO.on (h : BookO B w c F L V O) : Own.On (fun b => B ≤ b ∧ b < w.heap.size) w ((F, L, V.map VH.d, O.map OH.d) : DStuffBook) c := by
  refine on_DStuffBook.2 ⟨fun b => (c 0).ownBlock = some b, fun b => (c 1).ownBlock = some b ∨ blV c V b ∨ blO c O b, ?_, ?_, onF h.f (fun g hg => hg) h.okf, fun b => (c 1).ownBlock = some b, fun b => blV c V b ∨ blO c O b, ?_, ?_, onF h.l (fun g hg => hg) h.okl, blV c V, blO c O, fun b hb => ⟨.inl hb, h.sepVO hb⟩, fun b hb => .inr hb, h.onV, h.onO⟩
  · intro b hb
    refine ⟨World.ownsRow.lt h.f b hb, ?_⟩
    have t1 := Row.typed h.f b hb
    rintro (h2 | h2 | h2)
    · exact neFL (Ty.one t1 (Row.typed h.l b h2))
    · rcases h.tyV h2 with t | t | t
      · exact neFV (Ty.one t1 t)
      · exact neFP (Ty.one t1 t)
      · exact neFS (Ty.one t1 t)
    · rcases h.tyO h2 with t | t | t
      · exact neFO (Ty.one t1 t)
      · exact neFP (Ty.one t1 t)
      · exact neFS (Ty.one t1 t)
  · rintro b (hb | hb | hb)
    · exact World.ownsRow.lt h.l b hb
    · exact h.inV hb
    · exact h.inO hb
  · intro b hb
    refine ⟨.inl hb, ?_⟩
    have t1 := Row.typed h.l b hb
    rintro (h2 | h2)
    · rcases h.tyV h2 with t | t | t
      · exact neLV (Ty.one t1 t)
      · exact neLP (Ty.one t1 t)
      · exact neLS (Ty.one t1 t)
    · rcases h.tyO h2 with t | t | t
      · exact neLO (Ty.one t1 t)
      · exact neLP (Ty.one t1 t)
      · exact neLS (Ty.one t1 t)
  · intro b hb
    exact .inr hb
end

end Go.Proofs.YthleodbbppgadaaGreat
