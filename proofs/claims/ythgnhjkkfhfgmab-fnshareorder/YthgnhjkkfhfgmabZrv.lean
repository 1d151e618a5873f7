/-
  What asking makes of a book, plain.
-/
import Derived.Test.YthgnhjkkfhfgmabZru
import Derived.Test.YthgnhjkkfhfgmabZrb
import Derived.Test.YthgnhjkkfhfgmabZmj
namespace Go.Proofs.Ythgnhjkkfhfgmab
open Go.RowKit Go.Sort

def insF (l th : List ByteArray) : List ByteArray := th.foldl insR l
theorem insR_memM : ∀ {l : List ByteArray} {x y : ByteArray}, y ∈ insR l x → y ∈ l ∨ y = x
  | [], x, y, h => by simp [insR] at h; exact Or.inr h
  | z :: l, x, y, h => by
    unfold insR at h
    cases h1 : ltB z x
    · rw [h1] at h
      cases h2 : eqB z x
      · rw [h2] at h
        rcases List.mem_cons.1 h with h | h
        · exact Or.inr h
        · exact Or.inl h
      · rw [h2] at h
        exact Or.inl h
    · rw [h1] at h
      rcases List.mem_cons.1 h with h | h
      · exact Or.inl (by rw [h]; exact List.mem_cons_self)
      · rcases insR_memM h with h | h
        · exact Or.inl (List.mem_cons_of_mem _ h)
        · exact Or.inr h
theorem insF_mem : ∀ {th l : List ByteArray} {y : ByteArray}, y ∈ insF l th → y ∈ l ∨ y ∈ th
  | [], _, _, h => Or.inl h
  | x :: th, l, y, h => by
    have h1 : y ∈ insF (insR l x) th := h
    rcases insF_mem h1 with h | h
    · rcases insR_memM h with h | h
      · exact Or.inl h
      · exact Or.inr (by rw [h]; exact List.mem_cons_self)
    · exact Or.inr (List.mem_cons_of_mem _ h)
theorem insF_len : ∀ (th l : List ByteArray), (insF l th).length ≤ l.length + th.length
  | [], _ => Nat.le_refl _
  | x :: th, l => by
    have h1 := insF_len th (insR l x)
    have h2 := insR_len l x
    have h3 : insF l (x :: th) = insF (insR l x) th := rfl
    rw [h3, List.length_cons]
    omega
theorem insF_next (l : List ByteArray) {th : List ByteArray} {k : Nat} (hk : k < th.length) : insF l (th.take (k + 1)) = insR (insF l (th.take k)) th[k] := by
  rw [List.take_add_one, List.getElem?_eq_getElem hk]
  show List.foldl insR l (th.take k ++ [th[k]]) = _
  rw [List.foldl_append]
  rfl
def askB (f : DShareBatch) (th : List ByteArray) : DShareBatch := (f.1, insF f.2.1 th, f.2.2)
noncomputable def askS (D : DShareBook) (x : ByteArray) (th : List ByteArray) : DShareBook × Int :=
  if bokB D = true then (if atI D.2 x < 0 then (D, 3) else if subB (btN D.2 (atI D.2 x).toNat).2.2 th = true then (if takB D.2 (atI D.2 x).toNat th = true then (D, 5) else if (ordS D).2 = true ∧ (ordS (D.1, D.2.set (atI D.2 x).toNat (askB (btN D.2 (atI D.2 x).toNat) th))).2 = false then (D, 6) else ((D.1, D.2.set (atI D.2 x).toNat (askB (btN D.2 (atI D.2 x).toNat) th)), 0)) else (D, 2)) else (([], []), 1)
theorem bok_eight {D : DShareBook} (h : BokP D) {i : Nat} (hi : i < D.2.length) : D.2[i].2.1.length ≤ 8 ∧ D.2[i].2.2.length ≤ 8 := by
  have hb := (h.row i hi).bat
  unfold batB at hb
  simp only [Bool.and_eq_true] at hb
  have e1 := sub_lenM hb.1.2
  have e2 := sub_lenM hb.2
  have e3 := (bok_small h).2.1
  omega
theorem ask_small {D : DShareBook} (h : BokP D) {q : Nat} (hq : q < D.2.length) {th : List ByteArray} (hs : subB (btN D.2 q).2.2 th = true) : SmD (D.1, D.2.set q (askB (btN D.2 q) th)) := by
  have h1 := (bok_small h).1
  rw [btN_at hq] at hs ⊢
  have h2 := h1.2.2 _ (List.getElem_mem hq)
  have h3 := bok_eight h hq
  have h4 := sub_lenM hs
  have h5 := SmL.of_sub h2.2.2 hs (by omega)
  refine ⟨h1.1, sm_set h1.2 ⟨h2.1, ⟨?_, fun y hy => ?_⟩, h2.2.2⟩⟩
  · have := insF_len th D.2[q].2.1
    show (insF D.2[q].2.1 th).length ≤ 64
    omega
  · rcases insF_mem hy with hy | hy
    · exact h2.2.1.2 y hy
    · exact h5.2 y hy
theorem enc_SM (l : List ByteArray) : enc 1 eS l = l.map .string := by
  induction l with
  | nil => rfl
  | cons x l ih => rw [enc_cons, ih]; rfl
theorem BkO.set1 {B : Nat} {w : World} {g cap nb : Nat} {v0 : Value} {T : List ByteArray} {L : List HB} (h : BkO B w v0 (.slice (some ⟨g, 0, none⟩) nb cap) T L) (hl : L.length = nb) {q : Nat} (hq : q < L.length) {hv : Value} {hs : List ByteArray} (hh : Row w B 9 1 eS hv hs) (zh : ∀ s ∈ hs, s.size ≤ maxLen) (ho : ∃ b, hv.ownBlock = some b) :
    BkO B (w.setCell ⟨g, q * 3 + 1, none⟩ hv) v0 (.slice (some ⟨g, 0, none⟩) nb cap) T (L.set q (L[q].1, (hv, hs), L[q].2.2)) := by
  subst hl
  have h2 := (Row.put h.bs.ro hq (j := 1) (by omega) hv (L[q].1, (hv, hs), L[q].2.2) (fun j hj => by rcases (show j = 0 ∨ j = 1 ∨ j = 2 by omega) with rfl | rfl | rfl <;> rfl)).1
  have KP : ∀ (b : Nat) (c : Array Value), w.heap[b]? = some (.cells c 9 (0, 0)) → (w.setCell ⟨g, q * 3 + 1, none⟩ hv).heap[b]? = w.heap[b]? := fun b c hc => by
    have hb : b ≠ g := fun e => by
      obtain ⟨c', hc'⟩ := Row.typed h.bs.ro g rfl
      rw [← e, hc] at hc'
      injection hc' with h1
      injection h1 with _ h2
      revert h2
      decide
    exact Below.heap_setCell _ _ _ _ hb
  refine ⟨strRow_kept h.th KP, h.zt, ⟨h2, fun y hy => ?_⟩, fun y hy => ?_, fun e => ?_⟩
  · rcases List.mem_or_eq_of_mem_set hy with hy | rfl
    · exact (h.bs.el y hy).kept KP
    · exact ⟨strRow_kept hh KP, strRow_kept (h.bs.el _ (List.getElem_mem hq)).n KP, (h.bs.el _ (List.getElem_mem hq)).z, zh, (h.bs.el _ (List.getElem_mem hq)).zn⟩
  · rcases List.mem_or_eq_of_mem_set hy with hy | rfl
    · exact h.nh y hy
    · exact ho
  · have := congrArg List.length e
    rw [List.length_set, List.length_nil] at this
    omega

end Go.Proofs.Ythgnhjkkfhfgmab
