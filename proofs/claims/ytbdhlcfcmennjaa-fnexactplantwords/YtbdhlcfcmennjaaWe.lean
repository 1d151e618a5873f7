/-
  Contracts of the two scanners' methods: what each answers to a rune, and what it leaves in memory.
-/
import Derived.Test.YtbdhlcfcmennjaaWc
import Derived.Test.YtbdhlcfcmennjaaWd
import Derived.Deep.QuietTactic
import Derived.Deep.RegionWith
import Derived.Deep.RegionLaw
import Derived.BigQuiet
namespace Go.Proofs.Ytbdhlcfcmennjaa
open Go.RowKit

/-- An append onto a list of the call's own, as one step of a region that draws. -/
theorem step_append_own {P : Program} {ops : Array Oper} {o : Oper} {a : Act} {w : World} {K : Act → World → Prop} {Q : Exit → Act → World → Prop} {E : Prop}
    (hg : o.guard = none) (s x : Operand) (t : TypeId) (hop : o.op = .call { callee := .builtin .append, args := #[s, x], argTypes := #[t, t] })
    (base : Nat) (e : TypeId) (i : TypeInfo) (z : Value) (size bytes : Nat) (ht : P.underlying t = some (.slice e)) (hi : P.info? e = some i) (hz : i.zero = some z)
    (hsize : i.size = size) (hby : i.bytes = bytes) (hzs : z.cells.size = size) (hsz : 0 < size)
    (v : Value) (n : Nat) (xs : List Value) (hs : a.eval s = v) (hown : w.ownsRow base e size v n xs)
    (ad : Addr) (m c : Nat) (news : List Value) (hx : a.eval x = .slice (some ad) m c) (hl : news.length = m * size) (hnews : ∀ j u, news[j]? = some u → w.cell? (ad.add j) = some u) (h1 : ∀ u ∈ news, u.oneCell' = true)
    (h63 : n + m ≤ maxLen) (hbytes : (n + m) * bytes ≤ 140737488355328) (hbase : base ≤ w.heap.size)
    (hK : ∀ v' w', w'.ownsRow base e size v' (n + m) (xs ++ news) → w.grownBy w' v.ownBlock → K (a.put o.dst v') w') :
    if Region.wanted o (yielded ops a.tmps) = true then Oper.wp P o a w K Q else E := by
  have hw : Region.wanted o (yielded ops a.tmps) = true := by simp [Region.wanted, hg]
  rw [if_pos hw]
  exact wp_append_own w s x t hop base e i z size bytes ht hi hz hsize hby hzs hsz v n xs hs hown ad m c news hx hl hnews h1 h63 hbytes hbase (fun v' w' h2 h3 _ => hK v' w' h2 h3)

theorem Below.drewN {B : Nat} {a w : World} (h : Below B a w) (q : Nat) : Below B a (w.drewN q) := ⟨h.os, h.tape, h.output, h.size, h.block⟩

theorem below_grown {w w' : World} {o : Obj} (h : Below (w.alloc o).heap.size (w.alloc o) w') : w.grownBy w' none :=
  ⟨h.os, h.tape, h.output, by have := h.size; simp at this; omega, fun k hk _ => (h.block k (by simp; omega)).trans (Below.heap_alloc w o k hk)⟩

theorem grown_chain {w w1 w3 : World} {o : Obj} {row : Option Nat} (h1 : w.grownBy w1 none) (h2 : (w1.alloc o).drew.grownBy w3 row) : w.grownBy w3 row :=
  ⟨h2.os.trans h1.os, h2.tape.trans h1.tape, h2.output.trans h1.output, by have a := h1.size; have b := h2.size; simp at b; omega,
    fun k hk hne => (h2.block k (by have a := h1.size; simp; omega) hne).trans ((Below.heap_alloc w1 o k (by have a := h1.size; omega)).trans (h1.block k hk (by simp)))⟩

set_option maxHeartbeats 1000000 in
/-- Between words: a space. -/
theorem gap_space (L v : Value) (at0 : Int) (w : World) :
    Calls Try.prog 122 #[.agg #[L, v], .int .i64 at0, .int .i32 32] w fun e w' => e = .returned (.tuple #[.iface 55 (.agg #[L, v]), .bool true]) ∧ Below w.heap.size w w' := by
  go_enter Try.func122, Try.ntmps122
  go_wp2
  go_ret2
  exact ⟨rfl, (Below.refl _ _).alloc (Nat.le_refl _) _⟩

set_option maxRecDepth 100000 in
set_option maxHeartbeats 1000000 in
theorem gap_other (L : Value) (oa : Option Addr) (n cap : Nat) (at0 r : Int) (w : World) (hr : (r == 32) = false) :
    Calls Try.prog 122 #[.agg #[L, .slice oa n cap], .int .i64 at0, .int .i32 r] w fun e w' => e = .returned (.tuple #[.iface 140 (.agg #[L, .slice oa n cap, .int .i64 at0]), .bool (okR r && decide (n < 16))]) ∧ Below w.heap.size w w' := by
  have hok := okR_any r
  by_cases hin : okR r = true
  · rw [hin] at hok ⊢
    have HX : Hid _ := hok
    clear hok hin
    go_enter Try.func122, Try.ntmps122
    go_wp2
    go_quiet ((go_at_call 123; exact Calls.quiet_of_same (HX.out _)))
    go_wp2
    go_ret2
    exact ⟨by simp; try omega, (Below.drewN ((Below.refl _ _).alloc (Nat.le_refl _) _) nq)⟩
  · have hin2 : okR r = false := by simpa using hin
    rw [hin2] at hok ⊢
    have HX : Hid _ := hok
    clear hok hin hin2
    go_enter Try.func122, Try.ntmps122
    go_wp2
    go_quiet ((go_at_call 123; exact Calls.quiet_of_same (HX.out _)))
    go_wp2
    go_ret2
    exact ⟨by simp, (Below.drewN ((Below.refl _ _).alloc (Nat.le_refl _) _) nq)⟩

set_option maxRecDepth 100000 in
set_option maxHeartbeats 1000000 in
theorem word_other (L v : Value) (f at0 r : Int) (w : World) (hr : (r == 32) = false) (h0 : 0 ≤ f) (h1 : f ≤ at0) (h2 : at0 ≤ 1048577) :
    Calls Try.prog 125 #[.agg #[L, v, .int .i64 f], .int .i64 at0, .int .i32 r] w fun e w' => e = .returned (.tuple #[.iface 140 (.agg #[L, v, .int .i64 f]), .bool (okR r && decide (at0 - f < 24))]) ∧ Below w.heap.size w w' := by
  have hok := okR_any r
  by_cases hin : okR r = true
  · rw [hin] at hok ⊢
    have HX : Hid _ := hok
    clear hok hin
    go_enter Try.func125, Try.ntmps125
    go_wp2
    go_quiet ((go_at_call 123; exact Calls.quiet_of_same (HX.out _)))
    go_wp2
    go_ret2
    exact ⟨by simp; try omega, (Below.drewN ((Below.refl _ _).alloc (Nat.le_refl _) _) nq)⟩
  · have hin2 : okR r = false := by simpa using hin
    rw [hin2] at hok ⊢
    have HX : Hid _ := hok
    clear hok hin hin2
    go_enter Try.func125, Try.ntmps125
    go_wp2
    go_quiet ((go_at_call 123; exact Calls.quiet_of_same (HX.out _)))
    go_wp2
    go_ret2
    exact ⟨by simp, (Below.drewN ((Below.refl _ _).alloc (Nat.le_refl _) _) nq)⟩

set_option maxRecDepth 100000 in
set_option maxHeartbeats 1000000 in
theorem word_space (s : ByteArray) (v : Value) (B f k n : Nat) (xs : List Value) (w : World) (h1 : f ≤ k) (h2 : k ≤ s.size) (h3 : s.size ≤ 1048576) (hown : w.ownsRow B 9 1 v n xs) (hn : n ≤ 100) (hB : B ≤ w.heap.size) :
    Calls Try.prog 125 #[.agg #[.string s, v, .int .i64 f], .int .i64 k, .int .i32 32] w fun e w' => ∃ v', e = .returned (.tuple #[.iface 55 (.agg #[.string s, v']), .bool true]) ∧
      w'.ownsRow B 9 1 v' (n + 1) (xs ++ [.string (s.extract f k)]) ∧ w.grownBy w' v.ownBlock := by
  obtain ⟨i0, hi, hz0, hz1, hz2⟩ := info_parts Try.info9
  go_enter Try.func125, Try.ntmps125
  go_wp2_with (go_at_call 39; refine (clones_any _ _ (by simp; omega)).mono ?_; rintro e w1 ⟨rfl, hb⟩)
  have hlt : ∀ q, v.ownBlock = some q → B ≤ q ∧ q < w.heap.size := hown.lt
  have c0 : w1.cell? ⟨w.heap.size, 0, none⟩ = some (.string s) := (hb.cell (by simp)).trans (by simp)
  have c1 : w1.cell? ⟨w.heap.size, 1, none⟩ = some v := (hb.cell (by simp)).trans (by simp)
  have hs1 : w.heap.size + 1 ≤ w1.heap.size := by have := hb.size; simpa using this
  have hown1 : w1.ownsRow B 9 1 v n xs := hown.kept (below_grown hb) (by
    cases hv : v.ownBlock with
    | none => exact Or.inl rfl
    | some q => right; have := (hlt q hv).2; intro e; simp at e)
  have HO : Hid (w1.ownsRow B 9 1 v n xs) := hown1
  have HL : Hid (∀ q, v.ownBlock = some q → B ≤ q ∧ q < w.heap.size) := hlt
  have hc0 : ∀ o, (w1.alloc o).cell? ⟨w.heap.size, 0, none⟩ = some (.string s) := fun o => (World.cell?_of_block (w := w1) (a := ⟨w.heap.size, 0, none⟩) (Below.heap_alloc w1 o w.heap.size (by omega))).trans c0
  have hc1 : ∀ o, (w1.alloc o).cell? ⟨w.heap.size, 1, none⟩ = some v := fun o => (World.cell?_of_block (w := w1) (a := ⟨w.heap.size, 1, none⟩) (Below.heap_alloc w1 o w.heap.size (by omega))).trans c1
  clear hown1 hlt hown
  go_region_law (refine step_append_own rfl (.tmp 24) (.tmp 26) 24 rfl B 9 i0 (.string ByteArray.empty) 1 16 under42 hi hz0 hz1 hz2 rfl (by decide) v n xs (by simp [Act.eval]) (by exact HO.out.alloc _) ⟨w1.heap.size, 0, none⟩ 1 1 [.string (s.extract f k)] (by simp [Act.eval]) rfl (by exact cell_one_new _ _ _) (fun x hx => by simp at hx; subst hx; rfl) (by unfold maxLen; omega) (by omega) (by simp; omega) ?_; intro v' w3 hown' hgrow3; obtain ⟨oa', cap', rfl⟩ := slice_of hown'; have c0' := hgrow3.cell (a := ⟨w.heap.size, 0, none⟩) (v := .string s) (by exact hc0 _) (fun e => Nat.lt_irrefl _ (HL.out _ e.symm).2))
  all_goals
    go_wp2
    go_ret2
    exact ⟨_, rfl, hown', grown_chain (below_grown hb) hgrow3⟩

end Go.Proofs.Ytbdhlcfcmennjaa
