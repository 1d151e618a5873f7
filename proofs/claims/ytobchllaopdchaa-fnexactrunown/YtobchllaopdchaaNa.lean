import Derived.Test.YtobchllaopdchaaLo
import Derived.Test.YtobchllaopdchaaHi
import Derived.Lib.SmallJoins
import Derived.Maps.AppendAt
namespace Go.Proofs.Ytobchllaopdchaa
open Go.RowKit
section
variable {α : Type}
def enc (k : Nat) (e : α → Nat → Value) (l : List α) : List Value := l.flatMap fun a => (List.range k).map (e a)
theorem enc_cons (k : Nat) (e : α → Nat → Value) (a : α) (l : List α) : enc k e (a :: l) = (List.range k).map (e a) ++ enc k e l := by simp [enc]
theorem enc_append (k : Nat) (e : α → Nat → Value) (l m : List α) : enc k e (l ++ m) = enc k e l ++ enc k e m := by simp [enc]
theorem enc_at (k : Nat) (e : α → Nat → Value) : ∀ (l : List α) (i : Nat) (h : i < l.length) (j : Nat), j < k → (enc k e l)[i * k + j]? = some (e l[i] j)
  | [], i, h, _, _ => absurd h (Nat.not_lt_zero _)
  | a :: l, 0, h, j, hj => by
    rw [enc_cons, Nat.zero_mul, Nat.zero_add, List.getElem?_append_left (by simpa using hj)]
    simp [hj]
  | a :: l, i + 1, h, j, hj => by
    rw [enc_cons, List.getElem?_append_right (by simp [Nat.add_mul]; omega)]
    have e1 : (i + 1) * k + j - ((List.range k).map (e a)).length = i * k + j := by simp [Nat.add_mul]; omega
    rw [e1, enc_at k e l i (by simpa using h) j hj]
    simp
theorem enc_take (k : Nat) (e : α → Nat → Value) : ∀ (l : List α) (i : Nat), (enc k e l).take (i * k) = enc k e (l.take i)
  | [], i => by simp [enc]
  | a :: l, 0 => by simp [enc]
  | a :: l, i + 1 => by
    rw [enc_cons, List.take_succ_cons, enc_cons, List.take_append]
    have e1 : (i + 1) * k - ((List.range k).map (e a)).length = i * k := by simp [Nat.add_mul]
    rw [e1, enc_take k e l i, List.take_of_length_le (by simp [Nat.add_mul])]
theorem enc_drop (k : Nat) (e : α → Nat → Value) : ∀ (l : List α) (i : Nat), (enc k e l).drop (i * k) = enc k e (l.drop i)
  | [], i => by simp [enc]
  | a :: l, 0 => by simp [enc]
  | a :: l, i + 1 => by
    rw [enc_cons, List.drop_succ_cons, List.drop_append]
    have e1 : (i + 1) * k - ((List.range k).map (e a)).length = i * k := by simp [Nat.add_mul]
    rw [e1, enc_drop k e l i, List.drop_of_length_le (by simp [Nat.add_mul]), List.nil_append]
theorem enc_mem {k : Nat} {e : α → Nat → Value} {l : List α} {u : Value} (h : u ∈ enc k e l) : ∃ a ∈ l, ∃ j, j < k ∧ u = e a j := by
  simp only [enc, List.mem_flatMap, List.mem_map, List.mem_range] at h
  obtain ⟨a, ha, j, hj, rfl⟩ := h
  exact ⟨a, ha, j, hj, rfl⟩
theorem enc_set (k : Nat) (e : α → Nat → Value) : ∀ (l : List α) (i : Nat) (h : i < l.length) (j : Nat), j < k → ∀ (u : Value) (a' : α), (∀ q, q < k → e a' q = if q = j then u else e l[i] q) → (enc k e l).set (i * k + j) u = enc k e (l.set i a')
  | [], i, h, _, _, _, _, _ => absurd h (Nat.not_lt_zero _)
  | a :: l, 0, h, j, hj, u, a', he => by
    rw [List.set_cons_zero, enc_cons, enc_cons, Nat.zero_mul, Nat.zero_add, List.set_append_left _ _ (by simpa using hj)]
    congr 1
    apply List.ext_getElem
    · simp
    · intro q h1 h2
      have hq : q < k := by simpa using h2
      simp only [List.getElem_set, List.getElem_map, List.getElem_range]
      rw [he q hq]
      by_cases e1 : j = q
      · rw [if_pos e1, if_pos e1.symm]
      · rw [if_neg e1, if_neg (fun h => e1 h.symm)]; rfl
  | a :: l, i + 1, h, j, hj, u, a', he => by
    rw [List.set_cons_succ, enc_cons, enc_cons, List.set_append_right _ _ (by simp [Nat.add_mul]; omega)]
    have e1 : (i + 1) * k + j - ((List.range k).map (e a)).length = i * k + j := by simp [Nat.add_mul]; omega
    rw [e1, enc_set k e l i (by simpa using h) j hj u a' (by simpa using he)]
abbrev Row (w : World) (B : Nat) (t : TypeId) (k : Nat) (e : α → Nat → Value) (v : Value) (l : List α) : Prop := w.ownsRow B t k v l.length (enc k e l)
theorem Row.nil (w : World) (B : Nat) (t : TypeId) (k : Nat) (e : α → Nat → Value) : Row w B t k e (.slice none 0 0) [] := World.ownsRow_nil w B t k
theorem Row.made (w : World) {B : Nat} (t : TypeId) (k : Nat) (e : α → Nat → Value) (hB : B ≤ w.heap.size) : Row (w.alloc (.cells #[] t)) B t k e (.slice (some ⟨w.heap.size, 0, none⟩) 0 0) [] := World.ownsRow_made w #[] 0 hB (Nat.zero_le _) (by simp)
theorem Row.low {w : World} {B B' : Nat} {t : TypeId} {k : Nat} {e : α → Nat → Value} {v : Value} {l : List α} (h : Row w B t k e v l) (hB : B' ≤ B) : Row w B' t k e v l := Go.Joins.ownsRow_le h hB
theorem Row.len {w : World} {B : Nat} {t : TypeId} {k : Nat} {e : α → Nat → Value} {v : Value} {l : List α} (h : Row w B t k e v l) : l.length ≤ maxLen := by
  rcases h.2 with ⟨_, hn⟩ | ⟨g, cap, cur, _, _, _, hc, hm, _⟩
  · omega
  · omega
theorem Row.block {w w' : World} {B : Nat} {t : TypeId} {k : Nat} {e : α → Nat → Value} {v : Value} {l : List α} (h : Row w B t k e v l) (hb : ∀ g, v.ownBlock = some g → w'.heap[g]? = w.heap[g]?) : Row w' B t k e v l := by
  refine ⟨h.1, ?_⟩
  rcases h.2 with hn | ⟨g, cap, cur, hv, hbg, hg, rest⟩
  · exact Or.inl hn
  · exact Or.inr ⟨g, cap, cur, hv, hbg, (hb g (by rw [hv]; rfl)).trans hg, rest⟩
theorem Row.form {w : World} {B : Nat} {t : TypeId} {k : Nat} {e : α → Nat → Value} {v : Value} {l : List α} (h : Row w B t k e v l) : ∃ oa cap, v = .slice oa l.length cap := by
  rcases h.2 with ⟨hv, hn⟩ | ⟨g, cap, cur, hv, _⟩
  · exact ⟨none, 0, by rw [hv, hn]⟩
  · exact ⟨_, cap, hv⟩
theorem Row.below {w w' : World} {B : Nat} {t : TypeId} {k : Nat} {e : α → Nat → Value} {v : Value} {l : List α} (h : Row w B t k e v l) (hb : Below w.heap.size w w') : Row w' B t k e v l :=
  Row.block h (fun g hg => hb.block g (World.ownsRow.lt h g hg).2)
theorem Row.typed {w : World} {B : Nat} {t : TypeId} {k : Nat} {e : α → Nat → Value} {v : Value} {l : List α} (h : Row w B t k e v l) (g : Nat) (hg : v.ownBlock = some g) : ∃ cur, w.heap[g]? = some (.cells cur t (0, 0)) := by
  rcases h.2 with ⟨rfl, _⟩ | ⟨g', cap, cur, rfl, _, hgg, _⟩
  · cases hg
  · cases hg; exact ⟨cur, hgg⟩
theorem Row.apart {β : Type} {w : World} {B B' : Nat} {t t' : TypeId} {k k' : Nat} {e : α → Nat → Value} {e' : β → Nat → Value} {v v' : Value} {l : List α} {l' : List β} (h : Row w B t k e v l) (h' : Row w B' t' k' e' v' l') (ht : t ≠ t') : v.ownBlock = none ∨ v.ownBlock ≠ v'.ownBlock := by
  cases hv : v.ownBlock with
  | none => exact .inl rfl
  | some g =>
    refine .inr fun e => ?_
    obtain ⟨c, hc⟩ := Row.typed h g hv
    obtain ⟨c', hc'⟩ := Row.typed h' g e.symm
    rw [hc] at hc'
    exact ht (by injection hc' with h1; injection h1)
theorem Row.cell {w : World} {B : Nat} {t : TypeId} {k : Nat} {e : α → Nat → Value} {v : Value} {l : List α} (h : Row w B t k e v l) {i : Nat} (hi : i < l.length) : ∃ g cap, v = .slice (some ⟨g, 0, none⟩) l.length cap ∧ B ≤ g ∧ g < w.heap.size ∧ ∀ j, j < k → w.cell? ⟨g, i * k + j, none⟩ = some (e l[i] j) ∧ w.frozen? ⟨g, i * k + j, none⟩ = false := by
  rcases h.2 with ⟨_, hn⟩ | ⟨g, cap, cur, rfl, hb, hg, hc, hm', hs, ht⟩
  · omega
  · refine ⟨g, cap, rfl, hb, (Array.getElem?_eq_some_iff.1 hg).1, fun j hj => cell_row hg _ _ ?_⟩
    have e1 := enc_at k e l i hi j hj
    rw [← ht, List.getElem?_take_of_lt (by have : (i + 1) * k ≤ l.length * k := Nat.mul_le_mul_right _ hi; rw [Nat.add_mul, Nat.one_mul] at this; omega)] at e1
    rw [← Array.getElem?_toList]; exact e1
theorem Row.put {w : World} {B : Nat} {t : TypeId} {k : Nat} {e : α → Nat → Value} {g cap : Nat} {l : List α} (h : Row w B t k e (.slice (some ⟨g, 0, none⟩) l.length cap) l) {i : Nat} (hi : i < l.length) {j : Nat} (hj : j < k) (u : Value) (a' : α) (he : ∀ q, q < k → e a' q = if q = j then u else e l[i] q) :
    Row (w.setCell ⟨g, i * k + j, none⟩ u) B t k e (.slice (some ⟨g, 0, none⟩) l.length cap) (l.set i a') ∧ w.grownBy (w.setCell ⟨g, i * k + j, none⟩ u) (some g) := by
  obtain ⟨h1, h2⟩ := World.ownsRow.stored h (i * k + j) u
  rw [enc_set k e l i hi j hj u a' he] at h1
  refine ⟨?_, h2⟩
  show World.ownsRow _ _ _ _ _ _ _
  rw [List.length_set]; exact h1
end
theorem Row.at_ {α β : Type} [Lay β] {w : World} {B : Nat} {t : TypeId} {k : Nat} {e : α → Nat → Value} {v : Value} {l : List α} (h : Row w B t k e v l) (d : α → β) (hk : Lay.width β = k) {S : Nat → Prop} (hS : ∀ g, v.ownBlock = some g → S g) (hat : ∀ x ∈ l, Lay.At S w (d x) (e x)) : AtL S w (l.map d) v := by
  have hlen := Row.len h
  rcases h.2 with ⟨rfl, hn⟩ | ⟨g, cap, cur, rfl, hb, hg, hc, hm', hs, ht⟩
  · have : l = [] := List.eq_nil_of_length_eq_zero hn
    subst this
    exact ⟨none, 0, rfl, ⟨Nat.zero_le _, Nat.le_refl _, fun _ => rfl⟩, fun i hi => absurd hi (Nat.not_lt_zero _)⟩
  · refine ⟨some ⟨g, 0, none⟩, cap, by rw [List.length_map], ⟨by rw [List.length_map]; exact hlen, by rw [List.length_map]; exact hc, fun h => nomatch h⟩, fun i hi => ?_⟩
    rw [List.length_map] at hi
    refine ⟨g, 0, rfl, hS g rfl, e l[i], fun j hj => ?_, by rw [List.getElem_map]; exact hat _ (List.getElem_mem hi)⟩
    rw [hk] at hj ⊢
    obtain ⟨g', cap', hv, _, _, hcell⟩ := Row.cell (α := α) (l := l) (e := e) h hi
    cases hv
    have := (hcell j hj).1
    rw [Nat.zero_add]; exact this
theorem Row.on {α β : Type} [Own β] {w : World} {B : Nat} {t : TypeId} {k : Nat} {e : α → Nat → Value} {v : Value} {l : List α} (h : Row w B t k e v l) (d : α → β) (hk : Lay.width β = k) {S : Nat → Prop} (hS : ∀ g, v.ownBlock = some g → S g) (Ss : Nat → Nat → Prop) (sub : ∀ i b, Ss i b → S b ∧ v.ownBlock ≠ some b) (dis : ∀ i j b, Ss i b → Ss j b → i = j) (hon : ∀ i (h : i < l.length), Own.On (Ss i) w (d l[i]) (e l[i])) : OnL S w (l.map d) v := by
  have hlen := Row.len h
  rcases h.2 with ⟨rfl, hn⟩ | ⟨g, cap, cur, rfl, hb, hg, hc, hm', hs, ht⟩
  · have : l = [] := List.eq_nil_of_length_eq_zero hn
    subst this
    exact ⟨none, 0, rfl, ⟨Nat.zero_le _, Nat.le_refl _, fun _ => rfl⟩, .inl rfl⟩
  · refine ⟨some ⟨g, 0, none⟩, cap, by rw [List.length_map], ⟨by rw [List.length_map]; exact hlen, by rw [List.length_map]; exact hc, fun h => nomatch h⟩, ?_⟩
    cases hl : l with
    | nil => exact .inl rfl
    | cons x0 l0 =>
      refine .inr ⟨g, 0, Ss, cur, t, rfl, fun i => d (l.getD i x0), fun i hi => ?_, ⟨hg, hS g rfl, fun i b hb => ⟨(sub i b hb).1, fun e => (sub i b hb).2 (by rw [e]; rfl)⟩, dis, fun i hi => ?_⟩⟩
      · rw [List.getElem_map]
        congr 1
        rw [List.length_map] at hi
        subst hl
        simp only [List.getD_eq_getElem?_getD, List.getElem?_eq_getElem hi, Option.getD_some]
      · rw [← hl, List.length_map] at hi
        refine ⟨e l[i], fun j hj => ?_, ?_⟩
        · rw [hk] at hj ⊢
          have e1 := enc_at k e l i hi j hj
          rw [← ht, List.getElem?_take_of_lt (by have : (i + 1) * k ≤ l.length * k := Nat.mul_le_mul_right _ hi; rw [Nat.add_mul, Nat.one_mul] at this; omega)] at e1
          rw [Nat.zero_add, ← Array.getElem?_toList]; exact e1
        · have : l.getD i x0 = l[i] := by simp [hi]
          rw [this]; exact hon i hi
structure Flat {α : Type} [Lay α] (k : Nat) (e : α → Nat → Value) (ok : α → Prop) : Prop where
  wid : Lay.width α = k
  cell : ∀ {S : Nat → Prop} {w : World} {a : α} {c : Nat → Value}, Lay.At S w a c → (∀ j, j < k → c j = e a j) ∧ ok a
  at_ : ∀ {S : Nat → Prop} {w : World} {a : α}, ok a → Lay.At S w a (e a)
  one : ∀ (a : α) (j : Nat), (e a j).oneCell' = true
section
variable {α : Type} [Lay α] {k : Nat} {e : α → Nat → Value} {ok : α → Prop}
theorem Flat.enc_one (F : Flat k e ok) (l : List α) : ∀ u ∈ enc k e l, u.oneCell' = true := fun u hu => by
  obtain ⟨a, _, j, _, rfl⟩ := enc_mem hu
  exact F.one a j
theorem Flat.row_at (F : Flat k e ok) {w : World} {B : Nat} {t : TypeId} {v : Value} {l : List α} (h : Row w B t k e v l) {S : Nat → Prop} (hS : ∀ g, v.ownBlock = some g → S g) (hok : ∀ x ∈ l, ok x) : AtL S w l v := by
  have := Row.at_ h id F.wid hS (fun x hx => F.at_ (hok x hx))
  rwa [List.map_id] at this
end
section
variable {P : Program}
theorem run_app {t e : TypeId} {size bytes base n m : Nat} {w : World} {v sv : Value} {xs news : List Value} (T : ElT P t e size bytes) (hown : w.ownsRow base e size v n xs) (hsrc : Src w sv m size news) (h1 : ∀ u ∈ news, u.oneCell' = true) (h63 : n + m ≤ maxLen) (hbytes : (n + m) * bytes ≤ 140737488355328) (hbase : base ≤ w.heap.size) (ty : TypeId) :
    ∃ v' w', (Builtin.append_ #[t, t] ty #[v, sv]).run P w = .ok v' w' ∧ w'.ownsRow base e size v' (n + m) (xs ++ news) ∧ w.grownBy w' v.ownBlock ∧ (v'.ownBlock = v.ownBlock ∨ v'.ownBlock = some w.heap.size) := by
  obtain ⟨i, z, hi, hz, h2, h3, h4⟩ := T.info
  rcases hsrc with ⟨hl, ⟨rfl, rfl⟩ | ⟨ad, c, rfl, hc⟩⟩
  · have hn : news = [] := List.eq_nil_of_length_eq_zero (by simpa using hl)
    subst hn
    have hr := run_append_owned_none (P := P) (w := w) base t ty e i size T.ht hi v n xs hown
    exact ⟨v, w, hr, by simpa using hown, ⟨rfl, rfl, rfl, Nat.le_refl _, fun _ _ _ => rfl⟩, .inl rfl⟩
  · obtain ⟨v', w', hr, q1, q2, _, q3⟩ := run_append_own_at (P := P) (w := w) base t ty e i z size bytes T.ht hi hz h2 h3 h4 T.pos v n xs hown ad m c news hl hc h1 h63 hbytes hbase
    exact ⟨v', w', hr, q1, q2, q3⟩
theorem wpList_app {ops : Array Oper} {rest : List Oper} {o : Oper} {a : Act} {w : World} {Q : Exit → Act → World → Prop} {t e : TypeId} {size bytes base n m : Nat} {v sv : Value} {xs news : List Value} (T : ElT P t e size bytes) (hgd : o.guard = none) (s x : Operand)
    (ho : o.op = .call { callee := .builtin .append, args := #[s, x], argTypes := #[t, t] }) (hs : a.eval s = v) (hx : a.eval x = sv) (hown : w.ownsRow base e size v n xs) (hsrc : Src w sv m size news) (h1 : ∀ u ∈ news, u.oneCell' = true) (h63 : n + m ≤ maxLen) (hbytes : (n + m) * bytes ≤ 140737488355328) (hbase : base ≤ w.heap.size)
    (h : ∀ v' w', w'.ownsRow base e size v' (n + m) (xs ++ news) → w.grownBy w' v.ownBlock → (v'.ownBlock = v.ownBlock ∨ v'.ownBlock = some w.heap.size) → wpList P ops Q rest (a.put o.dst v') w') :
    wpList P ops Q (o :: rest) a w := by
  refine wpList_plain hgd fun K hK => ?_
  obtain ⟨v', w', hr, h2, h3, h4⟩ := run_app (P := P) T hown hsrc h1 h63 hbytes hbase o.type
  unfold Oper.wp execOp
  simp only [ho, resolve, invoke, builtin, Sem.run_bind, Sem.run_pure, Result.andThen_ok, List.map_toArray, List.map_cons, List.map_nil, hs, hx, hr]
  exact hK _ _ (h v' w' h2 h3 h4)
end
def Fresh (w : World) (v r : Value) : Prop := ∀ g, r.ownBlock = some g → v.ownBlock = some g ∨ w.heap.size ≤ g
theorem Fresh.refl (w : World) (v : Value) : Fresh w v v := fun _ h => .inl h
theorem Fresh.trans {w w' : World} {v r s : Value} (h : Fresh w v r) (h' : Fresh w' r s) (hs : w.heap.size ≤ w'.heap.size) : Fresh w v s := fun g hg => by
  rcases h' g hg with h1 | h1
  · exact h g h1
  · exact .inr (Nat.le_trans hs h1)
end Go.Proofs.Ytobchllaopdchaa
