/-
  Whether somebody else has one of some things, by the model.
-/
import Derived.Test.YthgnhjkkfhfgmabZrs
namespace Go.Proofs.Ythgnhjkkfhfgmab
open Go.RowKit

theorem wrap_i64M (n : Int) (h0 : 0 ≤ n) (h1 : n < 9223372036854775808) : IntKind.i64.wrap n = n := by
  simp [IntKind.wrap, IntKind.bits, IntKind.signed]; omega

theorem app_newM {P : Program} {t e : TypeId} {size bytes m g B : Nat} {w : World} {sv : Value} {news : List Value} (T : ElT P t e size bytes) (hown : w.ownsRow B e size (.slice (some ⟨g, 0, none⟩) 0 0) 0 []) (hB : B ≤ w.heap.size) (hsrc : Src w sv m size news) (h63 : m ≤ maxLen) (hbytes : m * bytes ≤ 140737488355328) (ty : TypeId) :
    ∃ v' w', (Builtin.append_ #[t, t] ty #[.slice (some ⟨g, 0, none⟩) 0 0, sv]).run P w = .ok v' w' ∧ w'.ownsRow B e size v' m news ∧ Below w.heap.size w w' := by
  obtain ⟨i, z, hi, hz, h2, h3, h4⟩ := T.info
  rcases hsrc with ⟨hl, ⟨rfl, rfl⟩ | ⟨ad, c, rfl, hc⟩⟩
  · have hn : news = [] := List.eq_nil_of_length_eq_zero (by simpa using hl)
    subst hn
    exact ⟨_, w, run_append_owned_none (P := P) (w := w) B t ty e i size T.ht hi _ 0 [] hown, hown, Below.refl _ _⟩
  · by_cases h0 : m = 0
    · subst h0
      have hn : news = [] := List.eq_nil_of_length_eq_zero (by simpa using hl)
      subst hn
      refine ⟨.slice (some ⟨g, 0, none⟩) 0 0, w, ?_, hown, Below.refl _ _⟩
      simp [Builtin.append_, run_underlying T.ht, sizeOf, typeInfo, hi, storeCells, loadCells, Builtin.lenOf, Builtin.firstCells, loadCellsFrom]
    · obtain ⟨v', w', hr, q1, q2⟩ := run_append_arg_grows (P := P) (w := w) t ty e i z size bytes T.ht hi hz h2 h3 h4 T.pos ⟨g, 0, none⟩ 0 0 [] (by simp) (fun j u h => by simp at h) ad m c news hl hc (by omega) (by omega) (by simpa using hbytes)
      refine ⟨v', w', hr, ?_, ?_⟩
      · rw [Nat.zero_add, List.nil_append] at q1; exact Go.Joins.ownsRow_le q1 hB
      · exact ⟨q2.os, q2.tape, q2.output, q2.size, fun b hb => q2.block b hb (fun e => by cases e)⟩

theorem exec_app_newM {P : Program} {t e : TypeId} {size bytes m g B : Nat} {w : World} {sv : Value} {news : List Value} {o : Oper} {a : Act} (T : ElT P t e size bytes) (s x : Operand) (ho : o.op = .call { callee := .builtin .append, args := #[s, x], argTypes := #[t, t] }) (hs : a.eval s = .slice (some ⟨g, 0, none⟩) 0 0) (hx : a.eval x = sv) (hown : w.ownsRow B e size (.slice (some ⟨g, 0, none⟩) 0 0) 0 []) (hB : B ≤ w.heap.size) (hsrc : Src w sv m size news) (h63 : m ≤ maxLen) (hbytes : m * bytes ≤ 140737488355328) :
    ∃ v' w', (execOp a.eval o).run P w = .ok (.value v') w' ∧ w'.ownsRow B e size v' m news ∧ Below w.heap.size w w' := by
  obtain ⟨v', w', hr, q1, q2⟩ := app_newM (P := P) T hown hB hsrc h63 hbytes o.type
  refine ⟨v', w', ?_, q1, q2⟩
  unfold execOp
  simp only [ho, resolve, invoke, builtin, Sem.run_bind, Sem.run_pure, Result.andThen_ok, List.map_toArray, List.map_cons, List.map_nil, hs, hx, hr]

theorem atl_noneM {α : Type} [Lay α] (S : Nat → Prop) (w : World) : AtL S w ([] : List α) (.slice none 0 0) := ⟨none, 0, rfl, ⟨Nat.zero_le _, Nat.le_refl _, fun _ => rfl⟩, fun _ hi => absurd hi (Nat.not_lt_zero _)⟩
theorem step1M {P : Program} {md : Region.Mode} {ops : Array Oper} {C : World → Prop} {n f : Nat} {L : Array Bool → Act → World → Prop} {listed : Array Bool} {i d : Nat} {o : Oper} {a : Act} {w : World} (u : Value) (w' : World) (hc : ops[i]? = some o ∧ o.guard = none ∧ o.dst = some d ∧ i < n) (r0 : Region.ready md ops listed = [i]) (run : (execOp a.eval o).run P w = .ok (.value u) w') (hC : C w') (hk : anyC P md ops C n L f (listed.setIfInBounds i true) (a.put (some d) u) w') : anyC P md ops C n L (f + 1) listed a w := by
  obtain ⟨h1, h2, h3, h4⟩ := hc
  refine anyC_step [i] r0 (by simp) (one_list ⟨h4, o, h1, h2, u, w', run, hC, ?_⟩)
  rw [h3]; exact hk
theorem exec_runM {P : Program} {t : TypeId} {w w' : World} {v sv v' : Value} {o : Oper} {a : Act} {s x : Operand} (ho : o.op = .call { callee := .builtin .append, args := #[s, x], argTypes := #[t, t] }) (hs : a.eval s = v) (hx : a.eval x = sv) (hr : (Builtin.append_ #[t, t] o.type #[v, sv]).run P w = .ok v' w') : (execOp a.eval o).run P w = .ok (.value v') w' := by
  unfold execOp
  simp only [ho, resolve, invoke, builtin, Sem.run_bind, Sem.run_pure, Result.andThen_ok, List.map_toArray, List.map_cons, List.map_nil, hs, hx, hr]
theorem exec_appM {P : Program} {t e : TypeId} {size bytes base n m : Nat} {w : World} {v sv : Value} {xs news : List Value} {o : Oper} {a : Act} (T : ElT P t e size bytes) (s x : Operand) (ho : o.op = .call { callee := .builtin .append, args := #[s, x], argTypes := #[t, t] }) (hs : a.eval s = v) (hx : a.eval x = sv) (hown : w.ownsRow base e size v n xs) (hsrc : Src w sv m size news) (h1 : ∀ u ∈ news, u.oneCell' = true) (h63 : n + m ≤ maxLen) (hbytes : (n + m) * bytes ≤ 140737488355328) (hbase : base ≤ w.heap.size) :
    ∃ v' w', (execOp a.eval o).run P w = .ok (.value v') w' ∧ w'.ownsRow base e size v' (n + m) (xs ++ news) ∧ w.grownBy w' v.ownBlock ∧ (v'.ownBlock = v.ownBlock ∨ v'.ownBlock = some w.heap.size) := by
  obtain ⟨v', w', hr, q1, q2, q3⟩ := run_app (P := P) T hown hsrc h1 h63 hbytes hbase o.type
  refine ⟨v', w', ?_, q1, q2, q3⟩
  unfold execOp
  simp only [ho, resolve, invoke, builtin, Sem.run_bind, Sem.run_pure, Result.andThen_ok, List.map_toArray, List.map_cons, List.map_nil, hs, hx, hr]

end Go.Proofs.Ythgnhjkkfhfgmab
