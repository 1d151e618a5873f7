import Derived.Test.YtaejlcanccfmmaaGreatDoorM19
import Derived.Test.YtaejlcanccfmmaaGreatDoorZra
namespace Go.Proofs.YtaejlcanccfmmaaGreatDoor
open Go.RowKit Go.Sort
abbrev Vl := Value × List ByteArray
def Ap (a b : Vl) : Prop := ∀ g, a.1.ownBlock = some g → b.1.ownBlock ≠ some g
theorem Ap.symm {a b : Vl} (h : Ap a b) : Ap b a := fun g h1 h2 => h g h2 h1
structure Fam (B : Nat) (u : World) (F : List Vl) : Prop where
  row : ∀ x ∈ F, Row u B 9 1 eS x.1 x.2
  ap : F.Pairwise Ap
section
variable {B R : Nat} {w u u' : World} {F G : List Vl} {a : Vl} {v v' : Value} {l l' : List ByteArray}
theorem Fam.perm (h : Fam B u F) (hp : F.Perm G) : Fam B u G := ⟨fun x hx => h.row x (hp.mem_iff.2 hx), (hp.pairwise_iff (fun h => Ap.symm h)).1 h.ap⟩
theorem Fam.keep (h : Fam B u F) (hk : ∀ (q : Nat) (c : Array Value), B ≤ q → u.heap[q]? = some (.cells c 9 (0, 0)) → u'.heap[q]? = u.heap[q]?) : Fam B u' F :=
  ⟨fun x hx => Row.block (h.row x hx) (fun q hq => by
    obtain ⟨c, hc⟩ := Row.typed (h.row x hx) q hq
    exact hk q c (World.ownsRow.lt (h.row x hx) q hq).1 hc), h.ap⟩
theorem Fam.below (h : Fam B u F) (hb : Below u.heap.size u u') : Fam B u' F := h.keep (fun q _ _ hc => hb.block q (Array.getElem?_eq_some_iff.1 hc).1)
theorem Fam.but (h : Fam B u F) (hR : R < B) (hb : But (fun k => k = R) u u') : Fam B u' F := h.keep (fun q _ hq hc => hb.block q (Array.getElem?_eq_some_iff.1 hc).1 (fun e => by have e' : q = R := e; omega))
theorem Fam.tail (h : Fam B u (a :: F)) : Fam B u F := ⟨fun x hx => h.row x (List.mem_cons_of_mem _ hx), (List.pairwise_cons.1 h.ap).2⟩
theorem Fam.head (h : Fam B u ((v, l) :: F)) : Row u B 9 1 eS v l := h.row (v, l) (List.mem_cons_self ..)
theorem Fam.nil : Fam B u [] := ⟨fun _ hx => (nomatch hx), List.Pairwise.nil⟩
theorem Fam.add (h : Fam B u F) (hu : B ≤ u.heap.size) (hk : Fam B u' F) (hr : Row u' u.heap.size 9 1 eS v l) : Fam B u' ((v, l) :: F) :=
  ⟨fun x hx => by
    rcases List.mem_cons.1 hx with rfl | hx
    · exact Row.low hr hu
    · exact hk.row x hx, List.pairwise_cons.2 ⟨fun x hx g h1 h2 => by
      have a1 := (World.ownsRow.lt hr g h1).1
      have a2 := (World.ownsRow.lt (h.row x hx) g h2).2
      omega, h.ap⟩⟩
theorem Fam.grow (h : Fam B u ((v, l) :: F)) (hg : u.grownBy u' v.ownBlock) (hr : Row u' B 9 1 eS v' l') (hb : v'.ownBlock = v.ownBlock ∨ v'.ownBlock = some u.heap.size) : Fam B u' ((v', l') :: F) := by
  have hp := List.pairwise_cons.1 h.ap
  refine ⟨fun x hx => ?_, List.pairwise_cons.2 ⟨fun x hx g h1 h2 => ?_, hp.2⟩⟩
  · rcases List.mem_cons.1 hx with rfl | hx
    · exact hr
    · refine Row.block (h.tail.row x hx) (fun q hq => hg.block q (World.ownsRow.lt (h.tail.row x hx) q hq).2 (fun e => ?_))
      exact hp.1 x hx q e.symm hq
  · rcases hb with hb | hb
    · exact hp.1 x hx g (hb.symm.trans h1) h2
    · have e : u.heap.size = g := by
        have := hb.symm.trans h1
        injection this
      have a2 := (World.ownsRow.lt (h.tail.row x hx) g h2).2
      omega
theorem Fam.box (h : Fam B u F) {g : Nat} {c : Array Value} {t : TypeId} (hx : u.heap[g]? = some (.cells c t (0, 0))) (ht : t ≠ 9) (j : Nat) (z : Value) : Fam B (u.setCell ⟨g, j, none⟩ z) F := h.keep (fun q _ _ hc => Below.heap_setCell _ _ _ _ (fun e => by
  have e' : q = g := e
  subst e'
  rw [hx] at hc
  injection hc with h1
  injection h1 with _ h2
  exact ht h2))
theorem Fam.grown (h : Fam B u F) {t : TypeId} {k : Nat} {α : Type} {e : α → Nat → Value} {L : List α} (hr : Row u B t k e v L) (ht : t ≠ 9) (hg : u.grownBy u' v.ownBlock) : Fam B u' F := h.keep (fun q _ _ hc => hg.block q (Array.getElem?_eq_some_iff.1 hc).1 (fun e => by
  obtain ⟨c, hc2⟩ := Row.typed hr q e.symm
  rw [hc] at hc2
  injection hc2 with h1
  injection h1 with _ h2
  exact ht h2.symm))
end
def flatH (L : List HB) : List Vl := L.flatMap (fun x => [x.2.1, x.2.2])
theorem flatH_push (L : List HB) (x : HB) : (x.2.1 :: x.2.2 :: flatH L).Perm (flatH (L ++ [x])) := by
  unfold flatH
  rw [List.flatMap_append]
  simp only [List.flatMap_cons, List.flatMap_nil, List.append_nil]
  exact (List.perm_append_comm (l₁ := [x.2.1, x.2.2]))
theorem flatH_mem {L : List HB} {x : HB} (hx : x ∈ L) : x.2.1 ∈ flatH L ∧ x.2.2 ∈ flatH L := ⟨List.mem_flatMap.2 ⟨x, hx, by simp⟩, List.mem_flatMap.2 ⟨x, hx, by simp⟩⟩
def NM5 : List ByteArray := [⟨#[97, 108, 101]⟩, ⟨#[98]⟩, ⟨#[99, 45, 99]⟩, ⟨#[100, 97, 114, 107]⟩, ⟨#[120, 57]⟩]
structure WI (R B gn : Nat) (w u : World) (ob : Option Addr) (n cb : Nat) (p : Int) (f : Nat → Int) (v0 v1 tk : Value) (M : List ByteArray) (L : List HB) (X : List Vl) : Prop where
  bk : u.heap[B]? = some (.cells #[v0, v1] 26 (0, 0))
  rs : u.heap[B + 1]? = some (.cells #[.slice none 0 0, .slice none 0 0] 26 (0, 0))
  nm : u.heap[gn]? = some (.cells (NM5.map Value.string).toArray 9 (0, 0))
  ro : Row u B 43 3 eH v1 L
  fm : Fam B u ((tk, M) :: (X ++ ((.slice (some ⟨gn, 0, none⟩) 5 5, NM5) :: flatH L)))
  zl : ∀ x ∈ L, SzB 16 (dH x)
  zm : ∀ s ∈ M, s.size ≤ 16
  rd : Rd R u ob n cb p f
  bt : But (fun k => k = R) w u
  lo : R < B ∧ B = w.heap.size ∧ B ≤ gn ∧ B + 2 ≤ u.heap.size
section
variable {R B gn : Nat} {w u u' : World} {ob : Option Addr} {n cb : Nat} {p p' : Int} {f : Nat → Int} {v0 v1 tk tk' : Value} {M M' : List ByteArray} {L : List HB} {X Y : List Vl}
theorem WI.call (h : WI R B gn w u ob n cb p f v0 v1 tk M L X) (hb : But (fun k => k = R) u u') (hr : Rd R u' ob n cb p' f) : WI R B gn w u' ob n cb p' f v0 v1 tk M L X := by
  have lo := h.lo
  have l1 := (Array.getElem?_eq_some_iff.1 h.bk).1
  have l2 := (Array.getElem?_eq_some_iff.1 h.rs).1
  have l3 := (Array.getElem?_eq_some_iff.1 h.nm).1
  have s := hb.size
  exact ⟨(hb.block B l1 (by omega)).trans h.bk, (hb.block _ l2 (by omega)).trans h.rs, (hb.block gn l3 (by omega)).trans h.nm, Row.block h.ro (fun q hq => by have := World.ownsRow.lt h.ro q hq; exact hb.block q this.2 (by omega)), h.fm.but lo.1 hb, h.zl, h.zm, hr, h.bt.trans hb, by omega⟩
theorem WI.below (h : WI R B gn w u ob n cb p f v0 v1 tk M L X) (hb : Below u.heap.size u u') : WI R B gn w u' ob n cb p f v0 v1 tk M L X :=
  h.call (But.of_below hb) (h.rd.but (fun b hbb => hb.block b (by have := h.lo; omega)))
theorem WI.fr (h : WI R B gn w u ob n cb p f v0 v1 tk M L X) {v : Value} {l : List ByteArray} (hv : (v, l) ∈ (tk, M) :: X) (hg : u.grownBy u' v.ownBlock) (fm' : Fam B u' ((tk', M') :: (Y ++ ((.slice (some ⟨gn, 0, none⟩) 5 5, NM5) :: flatH L)))) (hz : ∀ s ∈ M', s.size ≤ 16) : WI R B gn w u' ob n cb p f v0 v1 tk' M' L Y := by
  have lo := h.lo
  have hap := h.fm.ap
  have hrow : Row u B 9 1 eS v l := h.fm.row (v, l) (by
    rcases List.mem_cons.1 hv with e | hv
    · rw [e]; exact List.mem_cons_self ..
    · exact List.mem_cons_of_mem _ (List.mem_append.2 (.inl hv)))
  have low : ∀ b, v.ownBlock = some b → B ≤ b := fun b hb => (World.ownsRow.lt hrow b hb).1
  have kp : ∀ (q : Nat) (c : Array Value) (t : TypeId), t ≠ 9 → u.heap[q]? = some (.cells c t (0, 0)) → u'.heap[q]? = u.heap[q]? := fun q c t ht hc => hg.block q (Array.getElem?_eq_some_iff.1 hc).1 (fun e => by
    obtain ⟨c', hc'⟩ := Row.typed hrow q e.symm
    rw [hc] at hc'
    injection hc' with h1
    injection h1 with _ h2
    exact ht h2)
  have s := hg.size
  have apn : ∀ g, v.ownBlock = some g → g ≠ gn := fun g hg0 e => by
    subst e
    have hap' : (((tk, M) :: X) ++ ((.slice (some ⟨g, 0, none⟩) 5 5, NM5) :: flatH L)).Pairwise Ap := hap
    exact (List.pairwise_append.1 hap').2.2 (v, l) hv (.slice (some ⟨g, 0, none⟩) 5 5, NM5) (List.mem_cons_self ..) g hg0 rfl
  exact ⟨(kp _ _ _ (by decide) h.bk).trans h.bk, (kp _ _ _ (by decide) h.rs).trans h.rs, (hg.block gn (Array.getElem?_eq_some_iff.1 h.nm).1 (fun e => apn gn e.symm rfl)).trans h.nm, Row.block h.ro (fun q hq => by
    obtain ⟨c, hc⟩ := Row.typed h.ro q hq
    exact kp q c _ (by decide) hc), fm', h.zl, hz, h.rd.but (fun b hbb => hg.block b (by omega) (fun e => by have := low b e.symm; omega)), h.bt.grownZ hg (fun b hb => by have := low b hb; omega), by omega⟩
theorem WI.setx (h : WI R B gn w u ob n cb p f v0 v1 tk M L X) {g : Nat} {c : Array Value} (hx : u.heap[g]? = some (.cells c 43 (0, 0))) (hg : B ≤ g) (ha : v1.ownBlock ≠ some g) (j : Nat) (z : Value) : WI R B gn w (u.setCell ⟨g, j, none⟩ z) ob n cb p f v0 v1 tk M L X := by
  have lo := h.lo
  have ne : ∀ (q : Nat) (c' : Array Value) (t : TypeId), t ≠ 43 → u.heap[q]? = some (.cells c' t (0, 0)) → (u.setCell ⟨g, j, none⟩ z).heap[q]? = u.heap[q]? := fun q c' t ht hc => Below.heap_setCell _ _ _ _ (fun e => by
    have e' : q = g := e
    subst e'
    rw [hx] at hc
    injection hc with h1
    injection h1 with _ h2
    exact ht h2.symm)
  refine ⟨(ne _ _ _ (by decide) h.bk).trans h.bk, (ne _ _ _ (by decide) h.rs).trans h.rs, (ne _ _ _ (by decide) h.nm).trans h.nm, Row.block h.ro (fun q hq => Below.heap_setCell _ _ _ _ (fun e => by
    have e' : q = g := e
    subst e'
    exact ha hq)), h.fm.box hx (by decide) j z, h.zl, h.zm, h.rd.but (fun b hb => Below.heap_setCell _ _ _ _ (fun e => by
    have e' : b = g := e
    omega)), but_new h.bt (by omega) j z, ?_⟩
  have : (u.setCell ⟨g, j, none⟩ z).heap.size = u.heap.size := by simp [World.setCell]
  omega
end
structure WJ (R B gn gx : Nat) (w u : World) (ob : Option Addr) (n cb : Nat) (p : Int) (f : Nat → Int) (v0 v1 tk : Value) (M : List ByteArray) (L : List HB) (y : ByteArray) (hv : Value) (H : List ByteArray) (nv : Value) (N : List ByteArray) : Prop where
  wi : WI R B gn w u ob n cb p f v0 v1 tk M L [(hv, H), (nv, N)]
  bx : u.heap[gx]? = some (.cells #[.string y, hv, nv] 43 (0, 0))
  ax : v1.ownBlock ≠ some gx
  gl : B ≤ gx
  yz : y.size ≤ 16
  nz : SzL 16 N
  hz : SzL 16 H
section
variable {R B gn gx : Nat} {w u u' : World} {ob : Option Addr} {n cb : Nat} {p p' : Int} {f : Nat → Int} {v0 v1 tk tk' : Value} {M M' : List ByteArray} {L : List HB} {y : ByteArray} {hv hv' nv : Value} {H H' N : List ByteArray}
theorem WJ.call (h : WJ R B gn gx w u ob n cb p f v0 v1 tk M L y hv H nv N) (hb : But (fun k => k = R) u u') (hr : Rd R u' ob n cb p' f) : WJ R B gn gx w u' ob n cb p' f v0 v1 tk M L y hv H nv N :=
  ⟨h.wi.call hb hr, (hb.block gx (Array.getElem?_eq_some_iff.1 h.bx).1 (fun e => by have e' : gx = R := e; have := h.wi.lo; have := h.gl; omega)).trans h.bx, h.ax, h.gl, h.yz, h.nz, h.hz⟩
theorem WJ.below (h : WJ R B gn gx w u ob n cb p f v0 v1 tk M L y hv H nv N) (hb : Below u.heap.size u u') : WJ R B gn gx w u' ob n cb p f v0 v1 tk M L y hv H nv N :=
  h.call (But.of_below hb) (h.wi.rd.but (fun b hbb => hb.block b (by have := h.wi.lo; omega)))
theorem WJ.appT (h : WJ R B gn gx w u ob n cb p f v0 v1 tk M L y hv H nv N) (hg : u.grownBy u' tk.ownBlock) (hr : Row u' B 9 1 eS tk' M') (hb : tk'.ownBlock = tk.ownBlock ∨ tk'.ownBlock = some u.heap.size) (hz : ∀ s ∈ M', s.size ≤ 16) : WJ R B gn gx w u' ob n cb p f v0 v1 tk' M' L y hv H nv N := by
  have hrow := h.wi.fm.head
  exact ⟨h.wi.fr (List.mem_cons_self ..) hg (h.wi.fm.grow hg hr hb) hz, (hg.block gx (Array.getElem?_eq_some_iff.1 h.bx).1 (fun e => by
    obtain ⟨c', hc'⟩ := Row.typed hrow gx e.symm
    rw [h.bx] at hc'
    injection hc' with h1
    injection h1 with _ h2
    revert h2
    decide)).trans h.bx, h.ax, h.gl, h.yz, h.nz, h.hz⟩
theorem WJ.appH (h : WJ R B gn gx w u ob n cb p f v0 v1 tk M L y hv H nv N) (hg : u.grownBy u' hv.ownBlock) (hr : Row u' B 9 1 eS hv' H') (hb : hv'.ownBlock = hv.ownBlock ∨ hv'.ownBlock = some u.heap.size) (hz : SzL 16 H') : u'.heap[gx]? = some (.cells #[.string y, hv, nv] 43 (0, 0)) ∧ WJ R B gn gx w (u'.setCell ⟨gx, 1, none⟩ hv') ob n cb p f v0 v1 tk M L y hv' H' nv N := by
  have f1 : Fam B u ((hv, H) :: (tk, M) :: (([(nv, N)] : List Vl) ++ ((.slice (some ⟨gn, 0, none⟩) 5 5, NM5) :: flatH L))) := h.wi.fm.perm (List.Perm.swap ..)
  have f2 : Fam B u' ((tk, M) :: (([(hv', H'), (nv, N)] : List Vl) ++ ((.slice (some ⟨gn, 0, none⟩) 5 5, NM5) :: flatH L))) := (f1.grow hg hr hb).perm (List.Perm.swap ..)
  have hrow := f1.head
  have w1 : WI R B gn w u' ob n cb p f v0 v1 tk M L [(hv', H'), (nv, N)] := h.wi.fr (v := hv) (l := H) (by simp) hg f2 h.wi.zm
  have b1 : u'.heap[gx]? = some (.cells #[.string y, hv, nv] 43 (0, 0)) := (hg.block gx (Array.getElem?_eq_some_iff.1 h.bx).1 (fun e => by
    obtain ⟨c', hc'⟩ := Row.typed hrow gx e.symm
    rw [h.bx] at hc'
    injection hc' with h1
    injection h1 with _ h2
    revert h2
    decide)).trans h.bx
  exact ⟨b1, w1.setx b1 h.gl h.ax 1 hv', by rw [set_row b1 1 _]; rfl, h.ax, h.gl, h.yz, h.nz, hz⟩
theorem WJ.done {u3 : World} {vb : Value} (h : WJ R B gn gx w u ob n cb p f v0 v1 tk M L y hv H nv N) (hg : u.grownBy u3 v1.ownBlock) (ho : u3.ownsRow B 43 3 vb (L.length + 1) (enc 3 eH L ++ [.string y, hv, nv])) : u3.heap[B]? = some (.cells #[v0, v1] 26 (0, 0)) ∧ WI R B gn w (u3.setCell ⟨B, 1, none⟩ vb) ob n cb p f v0 vb tk M (L ++ [(y, (hv, H), (nv, N))]) [] := by
  have lo := h.wi.lo
  have hro := h.wi.ro
  have s := hg.size
  have low : ∀ b, v1.ownBlock = some b → B ≤ b := fun b hb => (World.ownsRow.lt hro b hb).1
  have kp : ∀ (q : Nat) (c : Array Value) (t : TypeId), t ≠ 43 → u.heap[q]? = some (.cells c t (0, 0)) → u3.heap[q]? = u.heap[q]? := fun q c t ht hc => hg.block q (Array.getElem?_eq_some_iff.1 hc).1 (fun e => by
    obtain ⟨c', hc'⟩ := Row.typed hro q e.symm
    rw [hc] at hc'
    injection hc' with h1
    injection h1 with _ h2
    exact ht h2)
  have b3 := (kp _ _ _ (by decide) h.wi.bk).trans h.wi.bk
  have r3 := (kp _ _ _ (by decide) h.wi.rs).trans h.wi.rs
  have n3 := (kp _ _ _ (by decide) h.wi.nm).trans h.wi.nm
  have ro3 : Row u3 B 43 3 eH vb (L ++ [(y, (hv, H), (nv, N))]) := by
    show World.ownsRow _ _ _ _ _ _ _
    rw [List.length_append, enc_append]
    exact ho
  have f3 : Fam B u3 ((tk, M) :: (([] : List Vl) ++ ((.slice (some ⟨gn, 0, none⟩) 5 5, NM5) :: flatH (L ++ [(y, (hv, H), (nv, N))])))) := by
    refine (h.wi.fm.grown hro (by decide) hg).perm (List.Perm.cons _ ?_)
    refine List.Perm.trans ?_ (List.Perm.cons _ (flatH_push L (y, (hv, H), (nv, N))))
    exact List.perm_middle (l₁ := [(hv, H), (nv, N)])
  have oth : ∀ q, q ≠ B → (u3.setCell ⟨B, 1, none⟩ vb).heap[q]? = u3.heap[q]? := fun q hq => Below.heap_setCell _ _ _ _ hq
  have neB : ∀ (q : Nat) (c' : Array Value) (t : TypeId), t ≠ 26 → u3.heap[q]? = some (.cells c' t (0, 0)) → q ≠ B := fun q c' t ht hc e => by
    subst e
    rw [b3] at hc
    injection hc with h1
    injection h1 with _ h2
    exact ht h2.symm
  refine ⟨b3, by rw [set_row b3 1 _]; rfl, (oth _ (by omega)).trans r3, (oth _ (neB _ _ _ (by decide) n3)).trans n3, Row.block ro3 (fun q hq => by
    obtain ⟨c, hc⟩ := Row.typed ro3 q hq
    exact oth q (neB q c _ (by decide) hc)), f3.box b3 (by decide) 1 vb, fun x hx => ?_, h.wi.zm, h.wi.rd.but (fun b hb => (oth b (by omega)).trans (hg.block b (by omega) (fun e => by have := low b e.symm; omega))), but_new (h.wi.bt.grownZ hg (fun b hb => by have := low b hb; omega)) (by omega) 1 vb, ?_⟩
  · rcases List.mem_append.1 hx with hx | hx
    · exact h.wi.zl x hx
    · rw [List.mem_singleton.1 hx]; exact ⟨h.yz, h.hz, h.nz⟩
  · have : (u3.setCell ⟨B, 1, none⟩ vb).heap.size = u3.heap.size := by simp [World.setCell]
    omega
theorem WI.addN {tk : Value} (h : WI R B gn w u ob n cb p f v0 v1 tk M L []) (h2 : WI R B gn w u' ob n cb p' f v0 v1 tk M L []) (hr : Row u' u.heap.size 9 1 eS nv N) : WI R B gn w u' ob n cb p' f v0 v1 tk M L [(nv, N)] :=
  ⟨h2.bk, h2.rs, h2.nm, h2.ro, (h.fm.add (by have := h.lo; omega) h2.fm hr).perm (List.Perm.swap ..), h2.zl, h2.zm, h2.rd, h2.bt, h2.lo⟩
theorem WI.mk3 (h : WI R B gn w u ob n cb p f v0 v1 tk M L [(nv, N)]) (hx : u.heap[gx]? = some (.cells #[.string ⟨#[]⟩, .slice none 0 0, .slice none 0 0] 43 (0, 0))) (hg : B ≤ gx) (ha : v1.ownBlock ≠ some gx) (hy : y.size ≤ 16) (hN : SzL 16 N) : WJ R B gn gx w (((u.setCell ⟨gx, 0, none⟩ (.string y)).setCell ⟨gx, 1, none⟩ (.slice none 0 0)).setCell ⟨gx, 2, none⟩ nv) ob n cb p f v0 v1 tk M L y (.slice none 0 0) [] nv N := by
  have x1 := set_row hx 0 (.string y)
  have x2 := set_row x1 1 (.slice none 0 0)
  have w3 := ((h.setx hx hg ha 0 (.string y)).setx x1 hg ha 1 (.slice none 0 0)).setx x2 hg ha 2 nv
  refine ⟨⟨w3.bk, w3.rs, w3.nm, w3.ro, ?_, w3.zl, w3.zm, w3.rd, w3.bt, w3.lo⟩, by rw [set_row x2 2 nv]; rfl, ha, hg, hy, hN, SzL.nil 16⟩
  refine Fam.perm (F := (.slice none 0 0, []) :: (tk, M) :: (([(nv, N)] : List Vl) ++ ((.slice (some ⟨gn, 0, none⟩) 5 5, NM5) :: flatH L))) ⟨fun x hx => ?_, List.pairwise_cons.2 ⟨fun x _ g hg => (by cases hg), w3.fm.ap⟩⟩ (List.Perm.swap ..)
  rcases List.mem_cons.1 hx with rfl | hx
  · exact Row.nil _ _ _ _ _
  · exact w3.fm.row x hx
end
end Go.Proofs.YtaejlcanccfmmaaGreatDoor
