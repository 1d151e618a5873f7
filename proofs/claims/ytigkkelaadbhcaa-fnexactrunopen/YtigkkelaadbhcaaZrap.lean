/-
  Copies of names by the model: l51Names. A book of the call's own, told by the heads of its lists.
-/
import Derived.Test.YtigkkelaadbhcaaZmg
import Derived.Test.YtigkkelaadbhcaaXsr
import Derived.Test.YtigkkelaadbhcaaHc
import Derived.Maps.AppendAt
namespace Go.Proofs.Ytigkkelaadbhcaa
open Go.RowKit Go.Sort

theorem own_src4 {base e size n : Nat} {w : World} {v : Value} {xs : List Value} (h : w.ownsRow base e size v n xs) : Src w v n size xs := by
  refine ⟨h.1, ?_⟩
  rcases h.2 with ⟨rfl, hn⟩ | ⟨g, cap, cur, rfl, hb, hg, hc, hm, hs, ht⟩
  · exact .inl ⟨rfl, hn⟩
  · refine .inr ⟨_, _, rfl, fun j u hj => ?_⟩
    rw [add_at, Nat.zero_add]
    have hjl : j < n * size := by
      have := (List.getElem?_eq_some_iff.1 hj).1
      rw [h.1] at this; exact this
    have : cur.toList[j]? = some u := by
      rw [← ht, List.getElem?_take_of_lt hjl] at hj; exact hj
    have e : cur[j]? = some u := by simpa using this
    simp only [World.cell?, hg, e]; rfl
theorem row_shape4 {w : World} {base e size n : Nat} {v : Value} {xs : List Value} (h : w.ownsRow base e size v n xs) : ∃ oa cap, v = .slice oa n cap := by
  rcases h.2 with ⟨rfl, rfl⟩ | ⟨g, cap, cur, rfl, _⟩
  · exact ⟨_, _, rfl⟩
  · exact ⟨_, _, rfl⟩
set_option maxRecDepth 100000 in
set_option maxHeartbeats 4000000 in
theorem namesC_any (S : Nat → Prop) (v : Value) (l : List ByteArray) (w : World) (h : AtL S w l v) (hl : l.length ≤ 1048576) (hS : ∀ b, S b → b < w.heap.size) :
    Calls Try.prog 13 #[v] w fun e w' => ∃ r, e = .returned r ∧ Row w' w.heap.size 9 1 eS r l ∧ (∃ g, r.ownBlock = some g) ∧ Below w.heap.size w w' := by
  have hsr : Hid (Src (w.alloc (.cells #[] 9)) v l.length 1 (enc 1 eS l)) := (flatS.src (h.same (Same.of_below ((Below.refl _ _).alloc (Nat.le_refl _) _) hS)))
  have hr0 : Hid (Row (w.alloc (.cells #[] 9)) w.heap.size 9 1 eS (.slice (some ⟨w.heap.size, 0, none⟩) 0 0) []) := Row.made w _ _ _ (Nat.le_refl _)
  have hbl : Hid (Below w.heap.size w (w.alloc (.cells #[] 9))) := (Below.refl _ _).alloc (Nat.le_refl _) _
  clear h
  go_enter Try.func13, Try.ntmps13
  go_wp2_with (first
    | (at_builtin; refine wpList_app elS rfl _ _ rfl rfl rfl hr0.out hsr.out (flatS.enc_one l) (by unfold maxLen; simp; omega) (by simp; omega) hbl.out.size ?_; intro v' w1 hown hg hbk))
  go_ret
  refine ⟨v', rfl, ?_, by rcases hbk with h | h <;> exact ⟨_, h⟩, hbl.out.grown hg hbl.out.size (fun p hp => by cases hp; exact Nat.le_refl _)⟩
  have := hown
  rw [List.length_nil, Nat.zero_add, enc_nil, List.nil_append] at this
  exact this
theorem alloc_atR {o : Obj} {j : Nat} (W : World) (h : j = W.heap.size) : (W.alloc o).heap[j]? = some o := by subst h; exact heap_alloc_new W o
/-- A batch with the heads of its two lists. -/
abbrev HB := ByteArray × (Value × List ByteArray) × (Value × List ByteArray)
def eH (x : HB) (j : Nat) : Value := cs [.string x.1, x.2.1.1, x.2.2.1] j
def dH (x : HB) : DShareBatch := (x.1, x.2.1.2, x.2.2.2)
theorem infB : (Try.prog.info? 48).map (fun i => (i.zero, i.size, i.bytes)) = some (some (.agg #[.string ByteArray.empty, .slice none 0 0, .slice none 0 0]), 3, 64) := by kernel_rfl
theorem elB : ElT Try.prog 24 48 3 64 := by
  obtain ⟨i0, hi, hz0, hz1, hz2⟩ := info_parts infB
  exact ⟨by kernel_rfl, ⟨i0, _, hi, hz0, hz1, hz2, rfl⟩, by decide⟩
/-- An element's lists lie in memory of the call's own. -/
structure HbO (B : Nat) (w : World) (x : HB) : Prop where
  h : Row w B 9 1 eS x.2.1.1 x.2.1.2
  n : Row w B 9 1 eS x.2.2.1 x.2.2.2
  z : x.1.size ≤ maxLen
  zh : ∀ s ∈ x.2.1.2, s.size ≤ maxLen
  zn : ∀ s ∈ x.2.2.2, s.size ≤ maxLen
/-- A list of batches of the call's own. -/
structure BsO (B : Nat) (w : World) (v1 : Value) (L : List HB) : Prop where
  ro : Row w B 48 3 eH v1 L
  el : ∀ x ∈ L, HbO B w x
structure BkO (B : Nat) (w : World) (v0 v1 : Value) (T : List ByteArray) (L : List HB) : Prop where
  th : Row w B 9 1 eS v0 T
  zt : ∀ s ∈ T, s.size ≤ maxLen
  bs : BsO B w v1 L
  nh : ∀ x ∈ L, ∃ g, x.2.1.1.ownBlock = some g
  em : L = [] → v1 = .slice none 0 0
section
variable {B : Nat} {w w' : World} {v0 v1 : Value} {T : List ByteArray} {L : List HB}
theorem HbO.low {B' : Nat} {x : HB} (h : HbO B w x) (hB : B' ≤ B) : HbO B' w x := ⟨Row.low h.h hB, Row.low h.n hB, h.z, h.zh, h.zn⟩
theorem HbO.below {x : HB} (h : HbO B w x) (hb : Below w.heap.size w w') : HbO B w' x := ⟨Row.below h.h hb, Row.below h.n hb, h.z, h.zh, h.zn⟩
theorem BsO.below (h : BsO B w v1 L) (hb : Below w.heap.size w w') : BsO B w' v1 L := ⟨Row.below h.ro hb, fun x hx => (h.el x hx).below hb⟩
theorem BkO.below (h : BkO B w v0 v1 T L) (hb : Below w.heap.size w w') : BkO B w' v0 v1 T L := ⟨Row.below h.th hb, h.zt, h.bs.below hb, h.nh, h.em⟩
theorem BkO.low {B' : Nat} (h : BkO B w v0 v1 T L) (hB : B' ≤ B) : BkO B' w v0 v1 T L := ⟨Row.low h.th hB, h.zt, ⟨Row.low h.bs.ro hB, fun x hx => (h.bs.el x hx).low hB⟩, h.nh, h.em⟩
/-- Blocks of texts stay when a block of another type is written. -/
theorem strRow_kept {w w' : World} {v : Value} {l : List ByteArray} (h : Row w B 9 1 eS v l) (hk : ∀ (q : Nat) (c : Array Value), w.heap[q]? = some (.cells c 9 (0, 0)) → w'.heap[q]? = w.heap[q]?) : Row w' B 9 1 eS v l :=
  Row.block h fun q hq => by
    obtain ⟨c, hc⟩ := Row.typed h q hq
    exact hk q c hc
theorem HbO.kept {x : HB} (h : HbO B w x) (hk : ∀ (q : Nat) (c : Array Value), w.heap[q]? = some (.cells c 9 (0, 0)) → w'.heap[q]? = w.heap[q]?) : HbO B w' x := ⟨strRow_kept h.h hk, strRow_kept h.n hk, h.z, h.zh, h.zn⟩
/-- The book as data. -/
theorem str_at {v : Value} {l : List ByteArray} (h : Row w B 9 1 eS v l) (hz : ∀ s ∈ l, s.size ≤ maxLen) : AtL (fun b => B ≤ b ∧ b < w.heap.size) w l v :=
  flatS.row_at h (fun q hq => World.ownsRow.lt h q hq) hz
theorem BsO.at_ (h : BsO B w v1 L) : AtL (fun b => B ≤ b ∧ b < w.heap.size) w (L.map dH) v1 :=
  Row.at_ h.ro dH rfl (fun q hq => World.ownsRow.lt h.ro q hq) (fun x hx => at_DShareBatch.2 ⟨⟨rfl, (h.el x hx).z⟩, str_at (h.el x hx).h (h.el x hx).zh, str_at (h.el x hx).n (h.el x hx).zn⟩)
theorem BkO.at_ (h : BkO B w v0 v1 T L) : AtL (fun b => B ≤ b ∧ b < w.heap.size) w T v0 ∧ AtL (fun b => B ≤ b ∧ b < w.heap.size) w (L.map dH) v1 := ⟨str_at h.th h.zt, h.bs.at_⟩
end
/-- A list of batches, grown by one. -/
theorem BsO.push {B : Nat} {w u u3 : World} {v1 v' : Value} {L : List HB} {x : HB} (h : BsO B w v1 L) (hb : Below w.heap.size w u) (hx : HbO B u x) (hg : u.grownBy u3 v1.ownBlock) (ho : u3.ownsRow B 48 3 v' (L.length + 1) (enc 3 eH L ++ [.string x.1, x.2.1.1, x.2.2.1])) : BsO B u3 v' (L ++ [x]) := by
  have kp : ∀ (q : Nat) (c : Array Value), u.heap[q]? = some (.cells c 9 (0, 0)) → u3.heap[q]? = u.heap[q]? := fun q c hc => hg.block q (Array.getElem?_eq_some_iff.1 hc).1 (fun e => by
    obtain ⟨c', hc'⟩ := Row.typed (Row.below h.ro hb) q e.symm
    rw [hc] at hc'
    injection hc' with h1
    injection h1 with _ h2
    revert h2
    decide)
  refine ⟨?_, fun y hy => ?_⟩
  · show World.ownsRow _ _ _ _ _ _ _
    rw [List.length_append, enc_append]
    exact ho
  · rcases List.mem_append.1 hy with hy | hy
    · exact ((h.el y hy).below hb).kept kp
    · rw [List.mem_singleton.1 hy]
      exact hx.kept kp
end Go.Proofs.Ytigkkelaadbhcaa
