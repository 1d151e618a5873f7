/-
  Where the model's search for ways stands: its lists side by side, and what they hold.
-/
import Derived.Test.YtnpfnbgbodojnabOj
namespace Go.Proofs.Ytnpfnbgbodojnab
open Go.RowKit

def enI (D : PD) (to : ByteArray) (ws : List RT) (j : Nat) : List RT := (ws.take j).flatMap fun w => (exN D w D.nv).filter (toB to)
def goI (D : PD) (to : ByteArray) (ws : List RT) (j : Nat) : List RT := (ws.take j).flatMap fun w => (exN D w D.nv).filter (goB D to)
theorem enI_next (D : PD) (to : ByteArray) {ws : List RT} {j : Nat} {r : RT} (h : ws[j]? = some r) : enI D to ws (j + 1) = enI D to ws j ++ (exN D r D.nv).filter (toB to) := by
  unfold enI; rw [← flat_pre, h]
theorem goI_next (D : PD) (to : ByteArray) {ws : List RT} {j : Nat} {r : RT} (h : ws[j]? = some r) : goI D to ws (j + 1) = goI D to ws j ++ (exN D r D.nv).filter (goB D to) := by
  unfold goI; rw [← flat_pre, h]
theorem enI_all (D : PD) (to : ByteArray) (ws : List RT) : enI D to ws ws.length = enW D to ws := by unfold enI enW; rw [List.take_length]
theorem goI_all (D : PD) (to : ByteArray) (ws : List RT) : goI D to ws ws.length = otW D to ws := by unfold goI otW; rw [List.take_length]
theorem goI_len {D : PD} {to : ByteArray} {ws : List RT} (hw : ∀ r ∈ ws, 0 < r.1.length ∧ r.1.Nodup) (hz : wei D ws ≤ 262144) (j : Nat) : (goI D to ws j).length ≤ 262144 := by
  have h1 : (goI D to ws j).Sublist (ws.flatMap fun w => (exN D w D.nv).filter (goB D to)) := flat_take (fun w => (exN D w D.nv).filter (goB D to)) ws j
  have h2 := wei_sub D h1
  have h3 := wei_flat (D := D) (goB D to) ws hw
  exact Nat.le_trans (wei_len D _) (by omega)
theorem take_lt {L : List RT} {x : RT} (h : (L.take 30).length < 30) : (L ++ [x]).take 30 = L.take 30 ++ [x] := by
  have hl : L.length < 30 := by simp at h; omega
  rw [List.take_of_length_le (by simp; omega), List.take_of_length_le (by omega)]
theorem take_ge {L : List RT} {x : RT} (h : ¬ (L.take 30).length < 30) : (L ++ [x]).take 30 = L.take 30 := by
  have hl : 30 ≤ L.length := by simp at h; omega
  exact List.take_append_of_le_length hl

theorem take_nthZ {Z : List RR} {k : Nat} (h : k < Z.length) : Z.take (k + 1) = Z.take k ++ [nthZ Z k] := by
  rw [List.take_add_one, nthZ_at h]; rfl
theorem take_map {Z : List RR} {O : List RT} (h : Z.map (·.r) = O) {k : Nat} (hk : k < Z.length) : O.take (k + 1) = O.take k ++ [(nthZ Z k).r] := by
  rw [← h, ← List.map_take, ← List.map_take, take_nthZ hk, List.map_append]; rfl
theorem blk_app (A C : List RR) : blkZ (A ++ C) = blkZ A ++ blkZ C := by simp [blkZ]
theorem nod_at {Z : List RR} {k : Nat} (h : (blkZ Z).Nodup) (hk : k < Z.length) : (nthZ Z k).g ≠ (nthZ Z k).h ∧ (nthZ Z k).g ∉ blkZ (Z.take k) ∧ (nthZ Z k).h ∉ blkZ (Z.take k) := by
  have e : Z = Z.take k ++ [nthZ Z k] ++ Z.drop (k + 1) := by rw [← take_nthZ hk, List.take_append_drop]
  rw [e, blk_app, blk_app, List.nodup_append] at h
  have h1 := h.1
  rw [List.nodup_append] at h1
  have h2 := h1.2.1
  simp only [blkZ, List.flatMap_cons, List.flatMap_nil, List.append_nil, List.nodup_cons, List.mem_cons, List.not_mem_nil, or_false] at h2
  refine ⟨h2.1, fun hm => h1.2.2 _ hm _ ?_ rfl, fun hm => h1.2.2 _ hm _ ?_ rfl⟩ <;> simp [blkZ]

/-- The ways that were found, those that go on, and those that are gone on from. -/
structure Three (B : Nat) (w : World) (vo vm vl : Value) (Zo Zm Zl : List RR) : Prop where
  o : RtsO B w vo Zo
  m : RtsL B w vm Zm
  l : RtsL B w vl Zl
  om : apV vo vm
  ol : apV vo vl
  ml : apV vm vl
theorem Three.below {B : Nat} {w w' : World} {vo vm vl : Value} {Zo Zm Zl : List RR} (h : Three B w vo vm vl Zo Zm Zl) (hb : Below w.heap.size w w') : Three B w' vo vm vl Zo Zm Zl :=
  ⟨h.o.below hb, h.m.below hb, h.l.below hb, h.om, h.ol, h.ml⟩
/-- The same, and the ways on from one. -/
structure Four (B S : Nat) (w : World) (vo vm vl vn : Value) (Zo Zm Zl Zn : List RR) (k : Nat) : Prop where
  t : Three B w vo vm vl Zo Zm Zl
  n : RtsO S w vn Zn
  on : apV vo vn
  mn : apV vm vn
  hB : B ≤ S
  blk : ∀ x ∈ blkZ Zo, x < S ∨ x ∈ blkZ (Zn.take k)
theorem Four.below {B S : Nat} {w w' : World} {vo vm vl vn : Value} {Zo Zm Zl Zn : List RR} {k : Nat} (h : Four B S w vo vm vl vn Zo Zm Zl Zn k) (hb : Below w.heap.size w w') : Four B S w' vo vm vl vn Zo Zm Zl Zn k :=
  ⟨h.t.below hb, h.n.below hb, h.on, h.mn, h.hB, h.blk⟩
theorem Four.pushO {B S : Nat} {w w' : World} {vo vo' vm vl vn : Value} {Zo Zm Zl Zn : List RR} {k : Nat} (h : Four B S w vo vm vl vn Zo Zm Zl Zn k) (hk : k < Zn.length)
    (ho : w'.ownsRow B 34 2 vo' (Zo.length + 1) (celZ Zo ++ [(nthZ Zn k).u, (nthZ Zn k).v])) (hg : w.grownBy w' vo.ownBlock) (hl : vo'.ownBlock = vo.ownBlock ∨ vo'.ownBlock = some w.heap.size) :
    Four B S w' vo' vm vl vn (Zo ++ [nthZ Zn k]) Zm Zl Zn (k + 1) := by
  obtain ⟨n1, n2, n3⟩ := nod_at h.n.nod hk
  have hz := h.n.row _ (nthZ_mem hk)
  have no : ∀ x, (x = (nthZ Zn k).g ∨ x = (nthZ Zn k).h) → x ∉ blkZ Zo := fun x hx hm => by
    rcases h.blk x hm with h1 | h1
    · rcases hx with rfl | rfl
      · have := hz.p.blk.2; omega
      · have := hz.q.blk.2; omega
    · rcases hx with rfl | rfl
      · exact n2 h1
      · exact n3 h1
  refine ⟨⟨h.t.o.push (hz.le h.hB) n1 (no _ (.inl rfl)) (no _ (.inr rfl)) ho hg, h.t.m.beside h.t.o.own hg h.t.om, h.t.l.beside h.t.o.own hg h.t.ol, h.t.om.moved hl h.t.m.own, h.t.ol.moved hl h.t.l.own, h.t.ml⟩, h.n.beside h.t.o.own hg h.on, h.on.moved hl h.n.own, h.mn, h.hB, fun x hx => ?_⟩
  rw [blk_app] at hx
  rw [take_nthZ hk, blk_app]
  rcases List.mem_append.1 hx with h1 | h1
  · rcases h.blk x h1 with h2 | h2
    · exact .inl h2
    · exact .inr (List.mem_append_left _ h2)
  · exact .inr (List.mem_append_right _ h1)
theorem Four.skip {B S : Nat} {w : World} {vo vm vl vn : Value} {Zo Zm Zl Zn : List RR} {k : Nat} (h : Four B S w vo vm vl vn Zo Zm Zl Zn k) (hk : k < Zn.length) : Four B S w vo vm vl vn Zo Zm Zl Zn (k + 1) :=
  ⟨h.t, h.n, h.on, h.mn, h.hB, fun x hx => by
    rw [take_nthZ hk, blk_app]
    rcases h.blk x hx with h2 | h2
    · exact .inl h2
    · exact .inr (List.mem_append_left _ h2)⟩
theorem Four.pushM {B S : Nat} {w w' : World} {vo vm vm' vl vn : Value} {Zo Zm Zl Zn : List RR} {k : Nat} (h : Four B S w vo vm vl vn Zo Zm Zl Zn k) (hk : k < Zn.length)
    (ho : w'.ownsRow B 34 2 vm' (Zm.length + 1) (celZ Zm ++ [(nthZ Zn k).u, (nthZ Zn k).v])) (hg : w.grownBy w' vm.ownBlock) (hl : vm'.ownBlock = vm.ownBlock ∨ vm'.ownBlock = some w.heap.size) :
    Four B S w' vo vm' vl vn Zo (Zm ++ [nthZ Zn k]) Zl Zn (k + 1) := by
  have hz := h.n.row _ (nthZ_mem hk)
  have h' : Four B S w' vo vm' vl vn Zo (Zm ++ [nthZ Zn k]) Zl Zn k :=
    ⟨⟨h.t.o.beside h.t.m.own hg h.t.om.symm, h.t.m.push ⟨hz.p.le h.hB, .inl (hz.q.le h.hB)⟩ ho hg, h.t.l.beside h.t.m.own hg h.t.ml, (h.t.om.symm.moved hl h.t.o.own).symm, h.t.ol, h.t.ml.moved hl h.t.l.own⟩, h.n.beside h.t.m.own hg h.mn, h.on, h.mn.moved hl h.n.own, h.hB, h.blk⟩
  exact h'.skip hk

end Go.Proofs.Ytnpfnbgbodojnab
