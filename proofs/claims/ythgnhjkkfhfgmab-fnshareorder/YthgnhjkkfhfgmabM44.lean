/-
  Several texts in one.
-/
import Derived.Test.YthgnhjkkfhfgmabZdl
import Derived.Test.YthgnhjkkfhfgmabZdn
import Derived.Test.YthgnhjkkfhfgmabZdd
import Derived.Lib.ItoaNum
/-
  Where the spoiling of a book of shares stands (l55Spoil).
-/
namespace Go.Proofs.Ythgnhjkkfhfgmab
open Go.RowKit Go.Sort

/-- The book's box, the answer's box, the list of batches. -/
structure SJ (R B gx gr : Nat) (w u : World) (ob : Option Addr) (n cb : Nat) (p : Int) (f : Nat → Int) (v0 v1 : Value) (L : List HB) : Prop where
  bx : u.heap[gx]? = some (.cells #[v0, v1] 26 (0, 0))
  rs : u.heap[gr]? = some (.cells #[.slice none 0 0, .slice none 0 0] 26 (0, 0))
  ro : Row u B 46 3 eH v1 L
  rd : Rd R u ob n cb p f
  bt : But (fun k => k = R) w u
  lo : R < w.heap.size ∧ w.heap.size < gr ∧ gr < B ∧ w.heap.size < gx ∧ gx ≠ gr ∧ B ≤ u.heap.size
/-- What is answered. -/
structure SF (R gx gr : Nat) (w u : World) (ob : Option Addr) (n cb : Nat) (p : Int) (f : Nat → Int) (v0 v1 : Value) (D : DShareBook) : Prop where
  bx : u.heap[gx]? = some (.cells #[v0, v1] 26 (0, 0))
  rs : u.heap[gr]? = some (.cells #[.slice none 0 0, .slice none 0 0] 26 (0, 0))
  a0 : AtL (fun b => w.heap.size < b ∧ b < u.heap.size ∧ b ≠ gr) u D.1 v0
  a1 : AtL (fun b => w.heap.size < b ∧ b < u.heap.size ∧ b ≠ gr) u D.2 v1
  sz : SzD 17 D
  rd : Rd R u ob n cb p f
  bt : But (fun k => k = R) w u
section
variable {R B gx gr : Nat} {w u u' : World} {ob : Option Addr} {n cb : Nat} {p p' : Int} {f : Nat → Int} {v0 v0' v1 : Value} {T : List ByteArray} {L : List HB}
theorem SJ.call (h : SJ R B gx gr w u ob n cb p f v0 v1 L) (hb : But (fun k => k = R) u u') (hr : Rd R u' ob n cb p' f) : SJ R B gx gr w u' ob n cb p' f v0 v1 L := by
  have lo := h.lo
  have l1 := (Array.getElem?_eq_some_iff.1 h.bx).1
  have l2 := (Array.getElem?_eq_some_iff.1 h.rs).1
  have s := hb.size
  exact ⟨(hb.block gx l1 (by omega)).trans h.bx, (hb.block _ l2 (by omega)).trans h.rs, Row.block h.ro (fun q hq => by have := World.ownsRow.lt h.ro q hq; exact hb.block q this.2 (by omega)), hr, h.bt.trans hb, by omega⟩
theorem SJ.below (h : SJ R B gx gr w u ob n cb p f v0 v1 L) (hb : Below u.heap.size u u') : SJ R B gx gr w u' ob n cb p f v0 v1 L :=
  h.call (But.of_below hb) (h.rd.but (fun b hbb => hb.block b (by have := h.lo; omega)))
/-- A list of texts grows. -/
theorem SJ.gr_ (h : SJ R B gx gr w u ob n cb p f v0 v1 L) {v : Value} {l : List ByteArray} (hrow : Row u B 9 1 eS v l) (hg : u.grownBy u' v.ownBlock) : SJ R B gx gr w u' ob n cb p f v0 v1 L := by
  have lo := h.lo
  have s := hg.size
  have low : ∀ b, v.ownBlock = some b → B ≤ b := fun b hb => (World.ownsRow.lt hrow b hb).1
  have kp : ∀ (q : Nat) (c : Array Value) (t : TypeId), t ≠ 9 → u.heap[q]? = some (.cells c t (0, 0)) → u'.heap[q]? = u.heap[q]? := fun q c t ht hc => hg.block q (Array.getElem?_eq_some_iff.1 hc).1 (fun e => by
    obtain ⟨c', hc'⟩ := Row.typed hrow q e.symm
    rw [hc] at hc'
    injection hc' with h1
    injection h1 with _ h2
    exact ht h2)
  exact ⟨(kp _ _ _ (by decide) h.bx).trans h.bx, (kp _ _ _ (by decide) h.rs).trans h.rs, Row.block h.ro (fun q hq => by
    obtain ⟨c, hc⟩ := Row.typed h.ro q hq
    exact kp q c _ (by decide) hc), h.rd.but (fun b hbb => hg.block b (by omega) (fun e => by have := low b e.symm; omega)), h.bt.grownZ hg (fun b hb => by have := low b hb; omega), by omega⟩
/-- The things' list is written into the box. -/
theorem SJ.box0 (h : SJ R B gx gr w u ob n cb p f v0 v1 L) : SJ R B gx gr w (u.setCell ⟨gx, 0, none⟩ v0') ob n cb p f v0' v1 L := by
  have lo := h.lo
  have oth : ∀ q, q ≠ gx → (u.setCell ⟨gx, 0, none⟩ v0').heap[q]? = u.heap[q]? := fun q hq => Below.heap_setCell _ _ _ _ hq
  have sz : (u.setCell ⟨gx, 0, none⟩ v0').heap.size = u.heap.size := by simp [World.setCell]
  exact ⟨by rw [set_row h.bx 0 _]; rfl, (oth _ (by omega)).trans h.rs, Row.block h.ro (fun q hq => by
    obtain ⟨c, hc⟩ := Row.typed h.ro q hq
    exact oth q (fun e => by
      subst e
      rw [h.bx] at hc
      injection hc with h1
      injection h1 with _ h2
      revert h2
      decide)), h.rd.but (fun b hb => oth b (by omega)), but_new h.bt (by omega) 0 _, by omega⟩
/-- A cell of a batch is written. -/
theorem SJ.el {g cap nb : Nat} (h : SJ R B gx gr w u ob n cb p f v0 (.slice (some ⟨g, 0, none⟩) nb cap) L) (hl : L.length = nb) {k j : Nat} (hk : k < L.length) (hj : j < 3) (z : Value) (x : HB) (he : ∀ q, q < 3 → eH x q = if q = j then z else eH L[k] q) : SJ R B gx gr w (u.setCell ⟨g, k * 3 + j, none⟩ z) ob n cb p f v0 (.slice (some ⟨g, 0, none⟩) nb cap) (L.set k x) := by
  subst hl
  have lo := h.lo
  have hg := (World.ownsRow.lt h.ro g rfl).1
  have oth : ∀ q, q ≠ g → (u.setCell ⟨g, k * 3 + j, none⟩ z).heap[q]? = u.heap[q]? := fun q hq => Below.heap_setCell _ _ _ _ hq
  have sz : (u.setCell ⟨g, k * 3 + j, none⟩ z).heap.size = u.heap.size := by simp [World.setCell]
  obtain ⟨c, hc⟩ := Row.typed h.ro g rfl
  have ne : ∀ (c' : Array Value) (q : Nat), u.heap[q]? = some (.cells c' 26 (0, 0)) → q ≠ g := fun c' q h1 e => by
    subst e
    rw [hc] at h1
    injection h1 with h1
    injection h1 with _ h2
    revert h2
    decide
  exact ⟨(oth _ (ne _ _ h.bx)).trans h.bx, (oth _ (ne _ _ h.rs)).trans h.rs, (Row.put h.ro hk hj z x he).1, h.rd.but (fun b hb => oth b (by omega)), but_new h.bt (by omega) _ _, by omega⟩
/-- A batch is put behind the others. -/
theorem SJ.push {u3 : World} {vb : Value} {x : HB} (h : SJ R B gx gr w u ob n cb p f v0 v1 L) (hg : u.grownBy u3 v1.ownBlock) (ho : u3.ownsRow B 46 3 vb (L.length + 1) (enc 3 eH L ++ [.string x.1, x.2.1.1, x.2.2.1])) : u3.heap[gx]? = some (.cells #[v0, v1] 26 (0, 0)) ∧ SJ R B gx gr w (u3.setCell ⟨gx, 1, none⟩ vb) ob n cb p f v0 vb (L ++ [x]) := by
  have lo := h.lo
  have s := hg.size
  have hro := h.ro
  have low : ∀ b, v1.ownBlock = some b → B ≤ b := fun b hb => (World.ownsRow.lt hro b hb).1
  have kp : ∀ (q : Nat) (c : Array Value), u.heap[q]? = some (.cells c 26 (0, 0)) → u3.heap[q]? = u.heap[q]? := fun q c hc => hg.block q (Array.getElem?_eq_some_iff.1 hc).1 (fun e => by
    obtain ⟨c', hc'⟩ := Row.typed hro q e.symm
    rw [hc] at hc'
    injection hc' with h1
    injection h1 with _ h2
    revert h2
    decide)
  have b3 := (kp _ _ h.bx).trans h.bx
  have r3 := (kp _ _ h.rs).trans h.rs
  have ro3 : Row u3 B 46 3 eH vb (L ++ [x]) := by
    show World.ownsRow _ _ _ _ _ _ _
    rw [List.length_append, enc_append]
    exact ho
  have oth : ∀ q, q ≠ gx → (u3.setCell ⟨gx, 1, none⟩ vb).heap[q]? = u3.heap[q]? := fun q hq => Below.heap_setCell _ _ _ _ hq
  have sz : (u3.setCell ⟨gx, 1, none⟩ vb).heap.size = u3.heap.size := by simp [World.setCell]
  exact ⟨b3, by rw [set_row b3 1 _]; rfl, (oth _ (by omega)).trans r3, Row.block ro3 (fun q hq => by
    obtain ⟨c, hc⟩ := Row.typed ro3 q hq
    exact oth q (fun e => by
      subst e
      rw [b3] at hc
      injection hc with h1
      injection h1 with _ h2
      revert h2
      decide)), h.rd.but (fun b hb => (oth b (by omega)).trans (hg.block b (by omega) (fun e => by have := low b e.symm; omega))), but_new (h.bt.grownZ hg (fun b hb => by have := low b hb; omega)) (by omega) 1 vb, by omega⟩
/-- The end: what lies in memory as data. -/
theorem SJ.sf (h : SJ R B gx gr w u ob n cb p f v0 v1 L) (hr : ∀ x ∈ ((v0, T) : Vl) :: flatH L, Row u B 9 1 eS x.1 x.2) (zt : SzL 17 T) (zl : ∀ x ∈ L, SzB 17 (dH x)) (hl : L.length ≤ 17) : SF R gx gr w u ob n cb p f v0 v1 (T, L.map dH) := by
  have lo := h.lo
  have m17 : 17 ≤ maxLen := by unfold maxLen; omega
  have up : ∀ b, B ≤ b ∧ b < u.heap.size → w.heap.size < b ∧ b < u.heap.size ∧ b ≠ gr := fun b hb => ⟨by omega, hb.2, by omega⟩
  have hb : BsO B u v1 L := ⟨h.ro, fun x hx => ⟨hr _ (List.mem_cons_of_mem _ (flatH_mem hx).1), hr _ (List.mem_cons_of_mem _ (flatH_mem hx).2), Nat.le_trans (zl x hx).1 m17, fun s hs => Nat.le_trans ((zl x hx).2.1.2 s hs) m17, fun s hs => Nat.le_trans ((zl x hx).2.2.2 s hs) m17⟩⟩
  refine ⟨h.bx, h.rs, (str_at (hr _ (List.mem_cons_self ..)) (fun s hs => Nat.le_trans (zt.2 s hs) m17)).up up, hb.at_.up up, ⟨zt, by show (L.map dH).length ≤ 17; rw [List.length_map]; exact hl, fun g hg => ?_⟩, h.rd, h.bt⟩
  obtain ⟨x, hx, rfl⟩ := List.mem_map.1 hg
  exact zl x hx
end
/-- A list within a family: taken ahead, grown, put back where its batch is. -/
theorem flatH_at (L : List HB) {k : Nat} (hk : k < L.length) (x : HB) : (flatH (L.set k x)).Perm (x.2.1 :: x.2.2 :: flatH (L.eraseIdx k)) := by
  have e : L.set k x = L.take k ++ x :: L.drop (k + 1) := List.set_eq_take_append_cons_drop.trans (if_pos hk)
  have e2 : L.eraseIdx k = L.take k ++ L.drop (k + 1) := List.eraseIdx_eq_take_drop_succ L k
  rw [e, e2]
  unfold flatH
  rw [List.flatMap_append, List.flatMap_append, List.flatMap_cons]
  show (_ ++ ([x.2.1, x.2.2] ++ _)).Perm ([x.2.1, x.2.2] ++ (_ ++ _))
  rw [← List.append_assoc, ← List.append_assoc]
  exact List.Perm.append_right _ List.perm_append_comm
end Go.Proofs.Ythgnhjkkfhfgmab

/-
  One digit, written: l43Dec, l55Dec below ten.
-/
namespace Go.Proofs.Ythgnhjkkfhfgmab
open Go.RowKit

theorem under135 : Try.prog.underlying 22 = some (.slice 5) := by kernel_rfl

theorem under5 : Try.prog.underlying 5 = some (.int .u8) := by kernel_rfl

theorem under9 : Try.prog.underlying 9 = some .string := by kernel_rfl

/-- One byte, made a text. -/
theorem conv_one (x : Int) (W : World) : (convert 22 9 (.slice (some ⟨W.heap.size, 0, none⟩) 1 1)).run Try.prog (W.alloc (.cells #[.int .u8 x] 5)) = .ok (.string ⟨#[UInt8.ofNat x.toNat]⟩) (W.alloc (.cells #[.int .u8 x] 5)) := by
  rw [run_convert_bytes_string _ 22 9 5 _ 1 1 under135 under5 under9]
  rw [run_bytesToString _ ⟨W.heap.size, 0, none⟩ 1 1 [x]]
  · rfl
  · exact run_loadCells_list _ ⟨W.heap.size, 0, none⟩ [.int .u8 x] (fun j v hj => by
      match j, hj with
      | 0, hj => simp at hj; subst hj; simp [Addr.add])

set_option maxRecDepth 100000 in
set_option maxHeartbeats 1000000 in
theorem dec1_any (j : Nat) (w : World) (h : j < 10) : Calls Try.prog 75 #[.int .i64 j] w fun e w' => ∃ s : ByteArray, e = .returned (.string s) ∧ s.size ≤ 4 ∧ Below w.heap.size w w' := by
  have hcv := conv_one
  have hj : (j : Int) < 10 := by omega
  go_enter Try.func75, Try.ntmps75
  go_wp2
  go_ret
  exact ⟨_, rfl, Nat.le_of_ble_eq_true rfl, (Below.refl _ _).alloc (Nat.le_refl _) _⟩
set_option maxRecDepth 100000 in
set_option maxHeartbeats 1000000 in
theorem dec5_any (j : Nat) (w : World) (h : j < 10) : Calls Try.prog 60 #[.int .i64 j] w fun e w' => ∃ s : ByteArray, e = .returned (.string s) ∧ s.size ≤ 4 ∧ Below w.heap.size w w' := by
  go_enter Try.func60, Try.ntmps60
  go_wp2_with fail
  refine (dec1_any j w h).mono ?_
  rintro e w1 ⟨s, rfl, hs, hb⟩
  go_wp2_with fail
  go_ret
  exact ⟨s, rfl, hs, hb⟩
end Go.Proofs.Ythgnhjkkfhfgmab
