/-
  Several texts in one.
-/
import Derived.Test.YtaejlcanccfmmaaGreatDoorM10
import Derived.Test.YtaejlcanccfmmaaGreatDoorM5
import Derived.Lib.SmallJoins
import Derived.Maps.AppendAt
import Derived.Test.YtaejlcanccfmmaaGreatDoorM1
import Derived.Laws.BitsAllLaws
namespace Go.Proofs.YtaejlcanccfmmaaGreatDoor
open Go.RowKit
section
variable {α : Type}
def enc (k : Nat) (e : α → Nat → Value) (l : List α) : List Value := l.flatMap fun a => (List.range k).map (e a)
theorem enc_nil (k : Nat) (e : α → Nat → Value) : enc k e [] = [] := rfl
theorem enc_cons (k : Nat) (e : α → Nat → Value) (a : α) (l : List α) : enc k e (a :: l) = (List.range k).map (e a) ++ enc k e l := by simp [enc]
theorem enc_append (k : Nat) (e : α → Nat → Value) (l m : List α) : enc k e (l ++ m) = enc k e l ++ enc k e m := by simp [enc]
theorem enc_len (k : Nat) (e : α → Nat → Value) : ∀ l : List α, (enc k e l).length = l.length * k
  | [] => by simp [enc]
  | a :: l => by rw [enc_cons, List.length_append, enc_len k e l]; simp [Nat.add_mul]; omega
theorem enc_at (k : Nat) (e : α → Nat → Value) : ∀ (l : List α) (i : Nat) (h : i < l.length) (j : Nat), j < k → (enc k e l)[i * k + j]? = some (e l[i] j)
  | [], i, h, _, _ => absurd h (Nat.not_lt_zero _)
  | a :: l, 0, h, j, hj => by
    rw [enc_cons, Nat.zero_mul, Nat.zero_add, List.getElem?_append_left (by simpa using hj)]
    simp [hj]
  | a :: l, i + 1, h, j, hj => by
    rw [enc_cons, List.getElem?_append_right (by simp [Nat.add_mul]; omega)]
    have e1 : (i + 1) * k + j - ((List.range k).map (e a)).length = i * k + j := by simp [Nat.add_mul]; omega
    rw [e1, enc_at k e l i (by simpa using h) j hj]
    simp
theorem enc_take (k : Nat) (e : α → Nat → Value) : ∀ (l : List α) (i : Nat), (enc k e l).take (i * k) = enc k e (l.take i)
  | [], i => by simp [enc]
  | a :: l, 0 => by simp [enc]
  | a :: l, i + 1 => by
    rw [enc_cons, List.take_succ_cons, enc_cons, List.take_append]
    have e1 : (i + 1) * k - ((List.range k).map (e a)).length = i * k := by simp [Nat.add_mul]
    rw [e1, enc_take k e l i, List.take_of_length_le (by simp [Nat.add_mul])]
theorem enc_drop (k : Nat) (e : α → Nat → Value) : ∀ (l : List α) (i : Nat), (enc k e l).drop (i * k) = enc k e (l.drop i)
  | [], i => by simp [enc]
  | a :: l, 0 => by simp [enc]
  | a :: l, i + 1 => by
    rw [enc_cons, List.drop_succ_cons, List.drop_append]
    have e1 : (i + 1) * k - ((List.range k).map (e a)).length = i * k := by simp [Nat.add_mul]
    rw [e1, enc_drop k e l i, List.drop_of_length_le (by simp [Nat.add_mul]), List.nil_append]
theorem enc_mem {k : Nat} {e : α → Nat → Value} {l : List α} {u : Value} (h : u ∈ enc k e l) : ∃ a ∈ l, ∃ j, j < k ∧ u = e a j := by
  simp only [enc, List.mem_flatMap, List.mem_map, List.mem_range] at h
  obtain ⟨a, ha, j, hj, rfl⟩ := h
  exact ⟨a, ha, j, hj, rfl⟩
theorem enc_set (k : Nat) (e : α → Nat → Value) : ∀ (l : List α) (i : Nat) (h : i < l.length) (j : Nat), j < k → ∀ (u : Value) (a' : α), (∀ q, q < k → e a' q = if q = j then u else e l[i] q) → (enc k e l).set (i * k + j) u = enc k e (l.set i a')
  | [], i, h, _, _, _, _, _ => absurd h (Nat.not_lt_zero _)
  | a :: l, 0, h, j, hj, u, a', he => by
    rw [List.set_cons_zero, enc_cons, enc_cons, Nat.zero_mul, Nat.zero_add, List.set_append_left _ _ (by simpa using hj)]
    congr 1
    apply List.ext_getElem
    · simp
    · intro q h1 h2
      have hq : q < k := by simpa using h2
      simp only [List.getElem_set, List.getElem_map, List.getElem_range]
      rw [he q hq]
      by_cases e1 : j = q
      · rw [if_pos e1, if_pos e1.symm]
      · rw [if_neg e1, if_neg (fun h => e1 h.symm)]; rfl
  | a :: l, i + 1, h, j, hj, u, a', he => by
    rw [List.set_cons_succ, enc_cons, enc_cons, List.set_append_right _ _ (by simp [Nat.add_mul]; omega)]
    have e1 : (i + 1) * k + j - ((List.range k).map (e a)).length = i * k + j := by simp [Nat.add_mul]; omega
    rw [e1, enc_set k e l i (by simpa using h) j hj u a' (by simpa using he)]
abbrev Row (w : World) (B : Nat) (t : TypeId) (k : Nat) (e : α → Nat → Value) (v : Value) (l : List α) : Prop := w.ownsRow B t k v l.length (enc k e l)
theorem Row.nil (w : World) (B : Nat) (t : TypeId) (k : Nat) (e : α → Nat → Value) : Row w B t k e (.slice none 0 0) [] := World.ownsRow_nil w B t k
theorem Row.made (w : World) {B : Nat} (t : TypeId) (k : Nat) (e : α → Nat → Value) (hB : B ≤ w.heap.size) : Row (w.alloc (.cells #[] t)) B t k e (.slice (some ⟨w.heap.size, 0, none⟩) 0 0) [] := World.ownsRow_made w #[] 0 hB (Nat.zero_le _) (by simp)
theorem Row.low {w : World} {B B' : Nat} {t : TypeId} {k : Nat} {e : α → Nat → Value} {v : Value} {l : List α} (h : Row w B t k e v l) (hB : B' ≤ B) : Row w B' t k e v l := Go.Joins.ownsRow_le h hB
theorem Row.len {w : World} {B : Nat} {t : TypeId} {k : Nat} {e : α → Nat → Value} {v : Value} {l : List α} (h : Row w B t k e v l) : l.length ≤ maxLen := by
  rcases h.2 with ⟨_, hn⟩ | ⟨g, cap, cur, _, _, _, hc, hm, _⟩
  · omega
  · omega
theorem Row.block {w w' : World} {B : Nat} {t : TypeId} {k : Nat} {e : α → Nat → Value} {v : Value} {l : List α} (h : Row w B t k e v l) (hb : ∀ g, v.ownBlock = some g → w'.heap[g]? = w.heap[g]?) : Row w' B t k e v l := by
  refine ⟨h.1, ?_⟩
  rcases h.2 with hn | ⟨g, cap, cur, hv, hbg, hg, rest⟩
  · exact Or.inl hn
  · exact Or.inr ⟨g, cap, cur, hv, hbg, (hb g (by rw [hv]; rfl)).trans hg, rest⟩
theorem Row.form {w : World} {B : Nat} {t : TypeId} {k : Nat} {e : α → Nat → Value} {v : Value} {l : List α} (h : Row w B t k e v l) : ∃ oa cap, v = .slice oa l.length cap := by
  rcases h.2 with ⟨hv, hn⟩ | ⟨g, cap, cur, hv, _⟩
  · exact ⟨none, 0, by rw [hv, hn]⟩
  · exact ⟨_, cap, hv⟩
theorem Row.below {w w' : World} {B : Nat} {t : TypeId} {k : Nat} {e : α → Nat → Value} {v : Value} {l : List α} (h : Row w B t k e v l) (hb : Below w.heap.size w w') : Row w' B t k e v l :=
  Row.block h (fun g hg => hb.block g (World.ownsRow.lt h g hg).2)
theorem Row.typed {w : World} {B : Nat} {t : TypeId} {k : Nat} {e : α → Nat → Value} {v : Value} {l : List α} (h : Row w B t k e v l) (g : Nat) (hg : v.ownBlock = some g) : ∃ cur, w.heap[g]? = some (.cells cur t (0, 0)) := by
  rcases h.2 with ⟨rfl, _⟩ | ⟨g', cap, cur, rfl, _, hgg, _⟩
  · cases hg
  · cases hg; exact ⟨cur, hgg⟩
theorem Row.apart {β : Type} {w : World} {B B' : Nat} {t t' : TypeId} {k k' : Nat} {e : α → Nat → Value} {e' : β → Nat → Value} {v v' : Value} {l : List α} {l' : List β} (h : Row w B t k e v l) (h' : Row w B' t' k' e' v' l') (ht : t ≠ t') : v.ownBlock = none ∨ v.ownBlock ≠ v'.ownBlock := by
  cases hv : v.ownBlock with
  | none => exact .inl rfl
  | some g =>
    refine .inr fun e => ?_
    obtain ⟨c, hc⟩ := Row.typed h g hv
    obtain ⟨c', hc'⟩ := Row.typed h' g e.symm
    rw [hc] at hc'
    exact ht (by injection hc' with h1; injection h1)
theorem Row.cell {w : World} {B : Nat} {t : TypeId} {k : Nat} {e : α → Nat → Value} {v : Value} {l : List α} (h : Row w B t k e v l) {i : Nat} (hi : i < l.length) : ∃ g cap, v = .slice (some ⟨g, 0, none⟩) l.length cap ∧ B ≤ g ∧ g < w.heap.size ∧ ∀ j, j < k → w.cell? ⟨g, i * k + j, none⟩ = some (e l[i] j) ∧ w.frozen? ⟨g, i * k + j, none⟩ = false := by
  rcases h.2 with ⟨_, hn⟩ | ⟨g, cap, cur, rfl, hb, hg, hc, hm', hs, ht⟩
  · omega
  · refine ⟨g, cap, rfl, hb, (Array.getElem?_eq_some_iff.1 hg).1, fun j hj => cell_row hg _ _ ?_⟩
    have e1 := enc_at k e l i hi j hj
    rw [← ht, List.getElem?_take_of_lt (by have : (i + 1) * k ≤ l.length * k := Nat.mul_le_mul_right _ hi; rw [Nat.add_mul, Nat.one_mul] at this; omega)] at e1
    rw [← Array.getElem?_toList]; exact e1
theorem Row.put {w : World} {B : Nat} {t : TypeId} {k : Nat} {e : α → Nat → Value} {g cap : Nat} {l : List α} (h : Row w B t k e (.slice (some ⟨g, 0, none⟩) l.length cap) l) {i : Nat} (hi : i < l.length) {j : Nat} (hj : j < k) (u : Value) (a' : α) (he : ∀ q, q < k → e a' q = if q = j then u else e l[i] q) :
    Row (w.setCell ⟨g, i * k + j, none⟩ u) B t k e (.slice (some ⟨g, 0, none⟩) l.length cap) (l.set i a') ∧ w.grownBy (w.setCell ⟨g, i * k + j, none⟩ u) (some g) := by
  obtain ⟨h1, h2⟩ := World.ownsRow.stored h (i * k + j) u
  rw [enc_set k e l i hi j hj u a' he] at h1
  refine ⟨?_, h2⟩
  show World.ownsRow _ _ _ _ _ _ _
  rw [List.length_set]; exact h1
end
theorem Row.at_ {α β : Type} [Lay β] {w : World} {B : Nat} {t : TypeId} {k : Nat} {e : α → Nat → Value} {v : Value} {l : List α} (h : Row w B t k e v l) (d : α → β) (hk : Lay.width β = k) {S : Nat → Prop} (hS : ∀ g, v.ownBlock = some g → S g) (hat : ∀ x ∈ l, Lay.At S w (d x) (e x)) : AtL S w (l.map d) v := by
  have hlen := Row.len h
  rcases h.2 with ⟨rfl, hn⟩ | ⟨g, cap, cur, rfl, hb, hg, hc, hm', hs, ht⟩
  · have : l = [] := List.eq_nil_of_length_eq_zero hn
    subst this
    exact ⟨none, 0, rfl, ⟨Nat.zero_le _, Nat.le_refl _, fun _ => rfl⟩, fun i hi => absurd hi (Nat.not_lt_zero _)⟩
  · refine ⟨some ⟨g, 0, none⟩, cap, by rw [List.length_map], ⟨by rw [List.length_map]; exact hlen, by rw [List.length_map]; exact hc, fun h => nomatch h⟩, fun i hi => ?_⟩
    rw [List.length_map] at hi
    refine ⟨g, 0, rfl, hS g rfl, e l[i], fun j hj => ?_, by rw [List.getElem_map]; exact hat _ (List.getElem_mem hi)⟩
    rw [hk] at hj ⊢
    obtain ⟨g', cap', hv, _, _, hcell⟩ := Row.cell (α := α) (l := l) (e := e) h hi
    cases hv
    have := (hcell j hj).1
    rw [Nat.zero_add]; exact this
theorem Row.on {α β : Type} [Own β] {w : World} {B : Nat} {t : TypeId} {k : Nat} {e : α → Nat → Value} {v : Value} {l : List α} (h : Row w B t k e v l) (d : α → β) (hk : Lay.width β = k) {S : Nat → Prop} (hS : ∀ g, v.ownBlock = some g → S g) (Ss : Nat → Nat → Prop) (sub : ∀ i b, Ss i b → S b ∧ v.ownBlock ≠ some b) (dis : ∀ i j b, Ss i b → Ss j b → i = j) (hon : ∀ i (h : i < l.length), Own.On (Ss i) w (d l[i]) (e l[i])) : OnL S w (l.map d) v := by
  have hlen := Row.len h
  rcases h.2 with ⟨rfl, hn⟩ | ⟨g, cap, cur, rfl, hb, hg, hc, hm', hs, ht⟩
  · have : l = [] := List.eq_nil_of_length_eq_zero hn
    subst this
    exact ⟨none, 0, rfl, ⟨Nat.zero_le _, Nat.le_refl _, fun _ => rfl⟩, .inl rfl⟩
  · refine ⟨some ⟨g, 0, none⟩, cap, by rw [List.length_map], ⟨by rw [List.length_map]; exact hlen, by rw [List.length_map]; exact hc, fun h => nomatch h⟩, ?_⟩
    cases hl : l with
    | nil => exact .inl rfl
    | cons x0 l0 =>
      refine .inr ⟨g, 0, Ss, cur, t, rfl, fun i => d (l.getD i x0), fun i hi => ?_, ⟨hg, hS g rfl, fun i b hb => ⟨(sub i b hb).1, fun e => (sub i b hb).2 (by rw [e]; rfl)⟩, dis, fun i hi => ?_⟩⟩
      · rw [List.getElem_map]
        congr 1
        rw [List.length_map] at hi
        subst hl
        simp only [List.getD_eq_getElem?_getD, List.getElem?_eq_getElem hi, Option.getD_some]
      · rw [← hl, List.length_map] at hi
        refine ⟨e l[i], fun j hj => ?_, ?_⟩
        · rw [hk] at hj ⊢
          have e1 := enc_at k e l i hi j hj
          rw [← ht, List.getElem?_take_of_lt (by have : (i + 1) * k ≤ l.length * k := Nat.mul_le_mul_right _ hi; rw [Nat.add_mul, Nat.one_mul] at this; omega)] at e1
          rw [Nat.zero_add, ← Array.getElem?_toList]; exact e1
        · have : l.getD i x0 = l[i] := by simp [hi]
          rw [this]; exact hon i hi
structure Flat {α : Type} [Lay α] (k : Nat) (e : α → Nat → Value) (ok : α → Prop) : Prop where
  wid : Lay.width α = k
  cell : ∀ {S : Nat → Prop} {w : World} {a : α} {c : Nat → Value}, Lay.At S w a c → (∀ j, j < k → c j = e a j) ∧ ok a
  at_ : ∀ {S : Nat → Prop} {w : World} {a : α}, ok a → Lay.At S w a (e a)
  one : ∀ (a : α) (j : Nat), (e a j).oneCell' = true
section
variable {α : Type} [Lay α] {k : Nat} {e : α → Nat → Value} {ok : α → Prop}
theorem Flat.ok_all (F : Flat k e ok) {S : Nat → Prop} {w : World} {l : List α} {v : Value} (h : AtL S w l v) : ∀ x ∈ l, ok x := fun x hx => by
  obtain ⟨oa, cap, _, _, hc⟩ := h
  obtain ⟨i, hi, rfl⟩ := List.getElem_of_mem hx
  obtain ⟨b, off, _, _, c, _, hat⟩ := hc i hi
  exact (F.cell hat).2
theorem Flat.src (F : Flat k e ok) {S : Nat → Prop} {w : World} {l : List α} {v : Value} (h : AtL S w l v) : Src w v l.length k (enc k e l) := by
  refine ⟨enc_len k e l, ?_⟩
  obtain ⟨oa, cap, rfl, hn, hc⟩ := h
  cases oa with
  | none =>
    have h0 : l.length = 0 := by have := hn.2.2.out rfl; omega
    exact .inl ⟨by rw [h0, hn.2.2.out rfl], h0⟩
  | some ad =>
    refine .inr ⟨ad, cap, rfl, fun j u hj => ?_⟩
    by_cases hk : k = 0
    · subst hk
      have := (List.getElem?_eq_some_iff.1 hj).1
      rw [enc_len] at this; omega
    have hk : 0 < k := by omega
    have hjl : j < l.length * k := by have := (List.getElem?_eq_some_iff.1 hj).1; rwa [enc_len] at this
    have hi : j / k < l.length := by rw [Nat.div_lt_iff_lt_mul hk]; exact hjl
    obtain ⟨b, off, hb, _, c, hcell, hat⟩ := hc (j / k) hi
    cases hb
    have hm := Nat.mod_lt j hk
    have hdm : j / k * k + j % k = j := by rw [Nat.mul_comm]; exact Nat.div_add_mod j k
    have e1 := enc_at k e l (j / k) hi (j % k) hm
    rw [hdm, hj] at e1
    cases e1
    rw [add_at]
    have := hcell (j % k) (by rw [F.wid]; exact hm)
    rw [F.wid, Nat.add_assoc, hdm] at this
    rw [this, (F.cell hat).1 _ hm]
theorem Flat.enc_one (F : Flat k e ok) (l : List α) : ∀ u ∈ enc k e l, u.oneCell' = true := fun u hu => by
  obtain ⟨a, _, j, _, rfl⟩ := enc_mem hu
  exact F.one a j
theorem Flat.row_at (F : Flat k e ok) {w : World} {B : Nat} {t : TypeId} {v : Value} {l : List α} (h : Row w B t k e v l) {S : Nat → Prop} (hS : ∀ g, v.ownBlock = some g → S g) (hok : ∀ x ∈ l, ok x) : AtL S w l v := by
  have := Row.at_ h id F.wid hS (fun x hx => F.at_ (hok x hx))
  rwa [List.map_id] at this
end
section
variable {P : Program}
theorem run_app {t e : TypeId} {size bytes base n m : Nat} {w : World} {v sv : Value} {xs news : List Value} (T : ElT P t e size bytes) (hown : w.ownsRow base e size v n xs) (hsrc : Src w sv m size news) (h1 : ∀ u ∈ news, u.oneCell' = true) (h63 : n + m ≤ maxLen) (hbytes : (n + m) * bytes ≤ 140737488355328) (hbase : base ≤ w.heap.size) (ty : TypeId) :
    ∃ v' w', (Builtin.append_ #[t, t] ty #[v, sv]).run P w = .ok v' w' ∧ w'.ownsRow base e size v' (n + m) (xs ++ news) ∧ w.grownBy w' v.ownBlock ∧ (v'.ownBlock = v.ownBlock ∨ v'.ownBlock = some w.heap.size) := by
  obtain ⟨i, z, hi, hz, h2, h3, h4⟩ := T.info
  rcases hsrc with ⟨hl, ⟨rfl, rfl⟩ | ⟨ad, c, rfl, hc⟩⟩
  · have hn : news = [] := List.eq_nil_of_length_eq_zero (by simpa using hl)
    subst hn
    have hr := run_append_owned_none (P := P) (w := w) base t ty e i size T.ht hi v n xs hown
    exact ⟨v, w, hr, by simpa using hown, ⟨rfl, rfl, rfl, Nat.le_refl _, fun _ _ _ => rfl⟩, .inl rfl⟩
  · obtain ⟨v', w', hr, q1, q2, _, q3⟩ := run_append_own_at (P := P) (w := w) base t ty e i z size bytes T.ht hi hz h2 h3 h4 T.pos v n xs hown ad m c news hl hc h1 h63 hbytes hbase
    exact ⟨v', w', hr, q1, q2, q3⟩
theorem wpList_app {ops : Array Oper} {rest : List Oper} {o : Oper} {a : Act} {w : World} {Q : Exit → Act → World → Prop} {t e : TypeId} {size bytes base n m : Nat} {v sv : Value} {xs news : List Value} (T : ElT P t e size bytes) (hgd : o.guard = none) (s x : Operand)
    (ho : o.op = .call { callee := .builtin .append, args := #[s, x], argTypes := #[t, t] }) (hs : a.eval s = v) (hx : a.eval x = sv) (hown : w.ownsRow base e size v n xs) (hsrc : Src w sv m size news) (h1 : ∀ u ∈ news, u.oneCell' = true) (h63 : n + m ≤ maxLen) (hbytes : (n + m) * bytes ≤ 140737488355328) (hbase : base ≤ w.heap.size)
    (h : ∀ v' w', w'.ownsRow base e size v' (n + m) (xs ++ news) → w.grownBy w' v.ownBlock → (v'.ownBlock = v.ownBlock ∨ v'.ownBlock = some w.heap.size) → wpList P ops Q rest (a.put o.dst v') w') :
    wpList P ops Q (o :: rest) a w := by
  refine wpList_plain hgd fun K hK => ?_
  obtain ⟨v', w', hr, h2, h3, h4⟩ := run_app (P := P) T hown hsrc h1 h63 hbytes hbase o.type
  unfold Oper.wp execOp
  simp only [ho, resolve, invoke, builtin, Sem.run_bind, Sem.run_pure, Result.andThen_ok, List.map_toArray, List.map_cons, List.map_nil, hs, hx, hr]
  exact hK _ _ (h v' w' h2 h3 h4)
end
theorem Src.take_ {w : World} {ad : Addr} {n c K : Nat} {news : List Value} (h : Src w (.slice (some ad) n c) n K news) {k : Nat} (hk : k ≤ n) (c' : Nat) : Src w (.slice (some ad) k c') k K (news.take (k * K)) := by
  have hle : k * K ≤ n * K := Nat.mul_le_mul_right _ hk
  refine ⟨by rw [List.length_take, h.1]; omega, .inr ⟨ad, c', rfl, fun j u hj => ?_⟩⟩
  rcases h.2 with ⟨h2, _⟩ | ⟨ad', c2, h2, hc⟩
  · cases h2
  · cases h2
    refine hc j u ?_
    have hjl := (List.getElem?_eq_some_iff.1 hj).1
    rw [List.length_take] at hjl
    rwa [List.getElem?_take_of_lt (by omega)] at hj
theorem Src.drop_ {w : World} {b off n cap K : Nat} {news : List Value} (h : Src w (.slice (some ⟨b, off, none⟩) n cap) n K news) {k : Nat} (hk : k ≤ n) (hn : n ≤ cap) : Src w (.slice (if cap = k then some ⟨b, off, none⟩ else some ⟨b, off + k * K, none⟩) (n - k) (cap - k)) (n - k) K (news.drop (k * K)) := by
  refine Src.tail (by rw [List.length_drop, h.1, Nat.sub_mul]) (fun e => by omega) (fun _ j u hj => ?_)
  rcases h.2 with ⟨h2, _⟩ | ⟨ad', c2, h2, hc⟩
  · cases h2
  · cases h2
    rw [List.getElem?_drop] at hj
    have := hc _ u hj
    rw [add_at] at this ⊢
    rw [← Nat.add_assoc] at this
    exact this
theorem Src.none_ (w : World) (K : Nat) : Src w (.slice none 0 0) 0 K [] := ⟨by simp, .inl ⟨rfl, rfl⟩⟩
def Fresh (w : World) (v r : Value) : Prop := ∀ g, r.ownBlock = some g → v.ownBlock = some g ∨ w.heap.size ≤ g
theorem Fresh.refl (w : World) (v : Value) : Fresh w v v := fun _ h => .inl h
theorem Fresh.trans {w w' : World} {v r s : Value} (h : Fresh w v r) (h' : Fresh w' r s) (hs : w.heap.size ≤ w'.heap.size) : Fresh w v s := fun g hg => by
  rcases h' g hg with h1 | h1
  · exact h g h1
  · exact .inr (Nat.le_trans hs h1)
end Go.Proofs.YtaejlcanccfmmaaGreatDoor

namespace Go.Proofs.YtaejlcanccfmmaaGreatDoor
open Go.RowKit Go.Sort
def eG (p : Nat × Nat × Bool) (j : Nat) : Value := cs [.int .u32 p.1, .int .u32 p.2.1, .bool p.2.2] j
theorem infG : (Tryz.prog.info? 104).map (fun i => (i.zero, i.size, i.bytes)) = some (some (.agg #[.int .u32 0, .int .u32 0, .bool false]), 3, 12) := by kernel_rfl
theorem elG : ElT Tryz.prog 100 104 3 12 := by
  obtain ⟨i0, hi, hz0, hz1, hz2⟩ := info_parts infG
  exact ⟨by kernel_rfl, ⟨i0, _, hi, hz0, hz1, hz2, rfl⟩, by decide⟩
structure Lv (B : Nat) (w : World) (g : Nat) (v : Value) (L : List (Nat × Nat × Bool)) (fr : Nat) : Prop where
  row : Row w B 104 3 eG v L
  box : w.heap[g]? = some (.cells #[v, .int .u32 fr] 102 (0, 0))
  low : B ≤ g
def lvS (g : Nat) (v : Value) (k : Nat) : Prop := k = g ∨ v.ownBlock = some k
section
variable {B g : Nat} {w w' : World} {v : Value} {L : List (Nat × Nat × Bool)} {fr : Nat}
theorem Lv.lt (h : Lv B w g v L fr) : g < w.heap.size := (Array.getElem?_eq_some_iff.1 h.box).1
theorem Lv.below (h : Lv B w g v L fr) (hb : Below w.heap.size w w') : Lv B w' g v L fr := ⟨Row.below h.row hb, (hb.block g h.lt).trans h.box, h.low⟩
theorem Lv.but {S : Nat → Prop} (h : Lv B w g v L fr) (hb : But S w w') (hS : ∀ k, lvS g v k → ¬ S k) : Lv B w' g v L fr :=
  ⟨Row.block h.row fun k hk => hb.block k (World.ownsRow.lt h.row k hk).2 (hS k (.inr hk)), (hb.block g h.lt (hS g (.inl rfl))).trans h.box, h.low⟩
theorem Lv.set_low (h : Lv B w g v L fr) : ∀ k, lvS g v k → B ≤ k := fun k hk => by
  rcases hk with rfl | hk
  · exact h.low
  · exact (World.ownsRow.lt h.row k hk).1
theorem Lv.apart (h : Lv B w g v L fr) : v.ownBlock ≠ some g := fun e => by
  obtain ⟨c, hc⟩ := Row.typed h.row g e
  rw [h.box] at hc
  injection hc with h1
  injection h1 with _ h2
  revert h2
  decide
theorem Lv.cell (h : Lv B w g v L fr) {a : Nat} (ha : a < L.length) : ∃ r cap, v = .slice (some ⟨r, 0, none⟩) L.length cap ∧ L.length ≤ cap ∧ r ≠ g ∧ r < w.heap.size ∧ w.cell? ⟨r, a * 3, none⟩ = some (.int .u32 L[a].1) ∧ w.cell? ⟨r, a * 3 + 1, none⟩ = some (.int .u32 L[a].2.1) ∧ w.cell? ⟨r, a * 3 + 2, none⟩ = some (.bool L[a].2.2) ∧ w.frozen? ⟨r, a * 3 + 2, none⟩ = false := by
  obtain ⟨r, cap, hv, hb, hr, hc⟩ := Row.cell h.row ha
  have h0 := (hc 0 (by omega)).1
  rw [Nat.add_zero] at h0
  refine ⟨r, cap, hv, ?_, fun e => h.apart (by rw [hv, e]; rfl), hr, h0, (hc 1 (by omega)).1, (hc 2 (by omega)).1, (hc 2 (by omega)).2⟩
  rcases h.row.2 with ⟨h1, h2⟩ | ⟨g', cap', cur', h1, _, _, hle, _⟩
  · omega
  · rw [hv] at h1; cases h1; exact hle
end
def goB (p : Nat × Nat × Bool) (fr : Nat) : Bool := !p.2.2 && decide (p.2.1 &&& (4294967295 - (fr + p.1)) = 0)
set_option maxRecDepth 100000 in
set_option maxHeartbeats 8000000 in
theorem canGo_any (B g : Nat) (v : Value) (L : List (Nat × Nat × Bool)) (fr a : Nat) (w : World) (h : Lv B w g v L fr) (ha : a < L.length) (h0 : L[a].1 < 256) (h1 : L[a].2.1 < 256) (hf : fr < 256) :
    Calls Tryz.prog 83 #[.pointer (some ⟨g, 0, none⟩), .int .i64 a] w fun e w' => e = .returned (.bool (goB L[a] fr)) ∧ Below w.heap.size w w' := by
  obtain ⟨r, cap, rfl, hcap, hrg, hr, c0, c1, c2, _⟩ := h.cell ha
  have hlen := Row.len h.row
  have hg := h.lt
  obtain ⟨y0, _⟩ := cell_row h.box 0 _ rfl
  obtain ⟨y1, _⟩ := cell_row h.box 1 _ rfl
  obtain ⟨n, en⟩ : ∃ n, L.length = n := ⟨_, rfl⟩
  obtain ⟨⟨hs, nd, gn⟩, ep⟩ : ∃ p, L[a] = p := ⟨_, rfl⟩
  rw [ep] at c0 c1 c2 h0 h1
  rw [en] at ha hcap hlen y0
  rw [ep]
  simp only at c0 c1 c2 h0 h1
  unfold maxLen at hlen
  clear h en ep
  obtain ⟨X, EX, BX, RX, -⟩ := box_new w #[.int .u32 hs, .int .u32 nd, .bool gn] 104
  go_enter Tryz.func83, Tryz.ntmps83
  go_upto_region 2 with fail
  rw [← EX.out]
  have q1 := fun d os => cell_regrown ((BX.out.cell (p := ⟨g, 1, none⟩) hg).trans y1) d os
  have k0 := fun d os => cell_regrown (cell_row RX.out 0 _ rfl).1 d os
  have k1 := fun d os => cell_regrown (cell_row RX.out 1 _ rfl).1 d os
  have k2 := fun d os => cell_regrown (cell_row RX.out 2 _ rfl).1 d os
  have hbits : bits .andNot .u32 (nd : Int) ((fr : Int) + (hs : Int)) = ((nd &&& (4294967295 - (fr + hs)) : Nat) : Int) := by
    have := u32_andNot_nat nd (fr + hs) (by omega) (by omega)
    rw [← this]; simp
  clear y0 y1 c0 c1 c2
  cases gn
  · go_wp2_with fail
    refine wp_region_quiet_below (by kernel_rfl) (by kernel_rfl) ?_
    repeat (first | go_big_quiet_step (fail) | quiet_step (fail))
    refine wpQuiet_nil ?_
    intro _ hw'
    obtain ⟨⟨dq, osq⟩, hw''⟩ := hw'
    subst hw''
    go_wp2_with fail
    go_ret
    refine ⟨?_, BX.out.trans ((below_regrown _ dq osq).mono BX.out.size)⟩
    show Ending.returned (.bool (((nd &&& (4294967295 - (fr + hs)) : Nat) : Int) == 0)) = Ending.returned (.bool (goB (hs, nd, false) fr))
    unfold goB
    simp only [Bool.not_false, Bool.true_and]
    generalize nd &&& (4294967295 - (fr + hs)) = x
    rw [show ((x : Int) == 0) = decide (x = 0) by rw [Bool.eq_iff_iff, beq_iff_eq, decide_eq_true_iff]; omega]
  · go_wp2_with fail
    refine wp_region_quiet_below (by kernel_rfl) (by kernel_rfl) ?_
    repeat (first | go_big_quiet_step (fail) | quiet_step (fail))
    refine wpQuiet_nil ?_
    intro _ hw'
    obtain ⟨⟨dq, osq⟩, hw''⟩ := hw'
    subst hw''
    go_wp2_with fail
    go_ret
    exact ⟨rfl, BX.out.trans ((below_regrown _ dq osq).mono BX.out.size)⟩
set_option maxRecDepth 100000 in
set_option maxHeartbeats 8000000 in
theorem letGo_any (B g : Nat) (v : Value) (L : List (Nat × Nat × Bool)) (fr a : Nat) (w : World) (h : Lv B w g v L fr) (ha : a < L.length) (h0 : L[a].1 < 256) (hf : fr < 256) :
    Calls Tryz.prog 57 #[.pointer (some ⟨g, 0, none⟩), .int .i64 a] w fun e w' => e = .returned (.tuple #[]) ∧ Lv B w' g v (L.set a (L[a].1, L[a].2.1, true)) (fr + L[a].1) ∧ But (lvS g v) w w' := by
  have H := h
  obtain ⟨r, cap, rfl, hcap, hrg, hr, c0, c1, c2, z2⟩ := h.cell ha
  have hlen := Row.len h.row
  have hg := h.lt
  obtain ⟨hs, ehs⟩ : ∃ p, L[a].1 = p := ⟨_, rfl⟩
  obtain ⟨Y, hY⟩ : ∃ Y, Y = w.setCell ⟨r, a * 3 + 2, none⟩ (.bool true) := ⟨_, rfl⟩
  have EY : Hid (Y = w.setCell ⟨r, a * 3 + 2, none⟩ (.bool true)) := hY
  have BY : Hid (But (lvS g (.slice (some ⟨r, 0, none⟩) L.length cap)) w Y) := by rw [hY]; exact (But.refl _ _).set (.inr rfl) _ _
  have LY : Hid (Lv B Y g (.slice (some ⟨r, 0, none⟩) L.length cap) (L.set a (hs, L[a].2.1, true)) fr) := by
    obtain ⟨p1, p2⟩ := Row.put H.row ha (j := 2) (by omega) (.bool true) (hs, L[a].2.1, true) (fun q hq => by
      rcases (show q = 0 ∨ q = 1 ∨ q = 2 by omega) with rfl | rfl | rfl
      · rw [← ehs]; rfl
      · rfl
      · rfl)
    rw [hY]
    exact ⟨p1, (p2.block g hg (fun e => by cases e; exact hrg rfl)).trans H.box, H.low⟩
  obtain ⟨y0, _⟩ := cell_row h.box 0 _ rfl
  obtain ⟨n, en⟩ : ∃ n, L.length = n := ⟨_, rfl⟩
  have hln : (L.set a (hs, L[a].2.1, true)).length = L.length := List.length_set
  obtain ⟨Z, hZ⟩ : ∃ Z, Z = L.set a (hs, L[a].2.1, true) := ⟨_, rfl⟩
  have eZ0 : ∃ hz : a < Z.length, Z[a] = (hs, L[a].2.1, true) := ⟨by rw [hZ, hln]; exact ha, by simp [hZ]⟩
  rw [← hZ] at LY hln
  rw [ehs] at c0 h0
  rw [ehs]
  rw [← hZ]
  rw [en] at hcap hlen y0 hln LY BY
  rw [en]
  rw [en] at ha
  unfold maxLen at hlen
  clear h H hY c0 c1 hZ
  obtain ⟨haZ, eZ⟩ := eZ0
  go_enter Tryz.func57, Tryz.ntmps57
  go_upto_region 1 with fail
  rw [← EY.out]
  clear y0 c2 z2
  obtain ⟨r', cap', e', hcap', hrg', hr', d0, _, _, _⟩ := LY.out.cell haZ
  cases e'
  simp only [eZ] at d0
  obtain ⟨y0, _⟩ := cell_row LY.out.box 0 _ rfl
  obtain ⟨y1, _⟩ := cell_row LY.out.box 1 _ rfl
  have hgY := LY.out.lt
  have q0 := fun d os => cell_regrown y0 d os
  have q1 := fun d os => cell_regrown y1 d os
  have q2 := fun d os => cell_regrown d0 d os
  clear y0 y1 d0 en ehs
  go_wp2_with fail
  refine wp_region_head_tail 13 (by kernel_rfl) (by kernel_rfl) ?_
  simp only [List.take_succ_cons, List.take_zero, List.drop_succ_cons, List.drop_zero]
  repeat (first | go_big_quiet_step (fail) | quiet_step (fail))
  refine wpQuiet_nil ?_
  intro _ hw'
  obtain ⟨⟨dq, osq⟩, hw''⟩ := hw'
  subst hw''
  have HBU : Hid (Below Y.heap.size Y (grow (redrawn Y dq) osq)) := below_regrown Y dq osq
  generalize grow (redrawn Y dq) osq = X at HBU ⊢
  have LX := LY.out.below HBU.out
  have hgX := LX.lt
  obtain ⟨x1, f1⟩ := cell_row LX.box 1 _ rfl
  have FIN : Hid (Lv B (X.setCell ⟨g, 1, none⟩ (.int .u32 ((fr : Int) + (hs : Int)))) g (.slice (some ⟨r, 0, none⟩) Z.length cap) Z (fr + hs)) := by
    refine ⟨Row.block LX.row fun k hk => ?_, ?_, LX.low⟩
    · exact Below.heap_setCell _ _ _ _ (fun e => LX.apart (by rw [hk]; exact congrArg some e))
    · have := set_row LX.box 1 (.int .u32 ((fr : Int) + (hs : Int)))
      rw [this]; rfl
  have BF : Hid (But (lvS g (.slice (some ⟨r, 0, none⟩) Z.length cap)) w (X.setCell ⟨g, 1, none⟩ (.int .u32 ((fr : Int) + (hs : Int))))) := (BY.out.trans (But.of_below HBU.out)).set (.inl rfl) _ _
  clear LX
  go_wp2_with fail
  go_end0
  exact ⟨rfl, FIN.out, BF.out⟩
end Go.Proofs.YtaejlcanccfmmaaGreatDoor

namespace Go.Proofs.YtaejlcanccfmmaaGreatDoor
open Go.RowKit
theorem go_can {T : List ByteArray} {Bs : List DShareBatch} (h : BokP (T, Bs)) {gone : List ByteArray} {q : Nat} (hq : q < Bs.length) : goB (hasM T Bs[q].2.1, hasM T Bs[q].2.2, hasB gone Bs[q].1) (freM T Bs gone) = (!(hasB gone Bs[q].1) && canB Bs q gone) := by
  unfold goB
  cases e : hasB gone Bs[q].1
  · simp only [Bool.not_false, Bool.true_and]
    rw [Bool.eq_iff_iff, decide_eq_true_iff]
    exact can_same h hq e
  · rfl
theorem Lv.gone {T : List ByteArray} {Bs : List DShareBatch} (h : BokP (T, Bs)) {B g : Nat} {w : World} {v : Value} {gone : List ByteArray} {q : Nat} (hq : q < Bs.length) (hg : hasB gone Bs[q].1 = false) (hl : Lv B w g v ((lvL T Bs gone).set q (hasM T Bs[q].2.1, hasM T Bs[q].2.2, true)) (freM T Bs gone + hasM T Bs[q].2.1)) : Lv B w g v (lvL T Bs (gone ++ [Bs[q].1])) (freM T Bs (gone ++ [Bs[q].1])) := by
  rw [go_list h hq, go_free h hq hg] at hl
  exact hl
end Go.Proofs.YtaejlcanccfmmaaGreatDoor
