/-
  The contract of the program's own cutting into words: it answers as the plain function says, in memory of its own.
-/
import Derived.Test.YtbdhlcfcmennjaaWe
import Derived.Lib.OthersKept
namespace Go.Proofs.Ytbdhlcfcmennjaa
open Go.RowKit

set_option maxRecDepth 100000 in
theorem meth96 (a b : Value) (W : World) : (method 242 55 (.agg #[a, b]) "loop.example/malthouse/impl.take").run Try.prog W = .ok (122, .agg #[a, b]) W := by kernel_rfl
set_option maxRecDepth 100000 in
theorem meth178 (a b c : Value) (W : World) : (method 242 140 (.agg #[a, b, c]) "loop.example/malthouse/impl.take").run Try.prog W = .ok (125, .agg #[a, b, c]) W := by kernel_rfl

/-- What a rune of a text says of the byte it begins at. -/
theorem rune_cases (t : ByteArray) (pos : Nat) (h : pos < t.size) : ∃ (r : Int) (wd : Nat), ((Utf8.decode t pos).1 : Int) = r ∧ (Utf8.decode t pos).2 = wd ∧
    ((r = 32 ∧ t[pos] = 32 ∧ wd = 1) ∨ ((r == 32) = false ∧ t[pos] ≠ 32 ∧ okR r = Pl.inW t[pos] ∧ (okR r = true → wd = 1))) := by
  by_cases ha : (t[pos]'h).toNat < 128
  · refine ⟨_, _, rfl, rfl, ?_⟩
    rw [decode_ascii t pos h ha]
    by_cases hc : t[pos] = 32
    · left; rw [hc]; exact ⟨rfl, rfl, rfl⟩
    · right
      refine ⟨?_, hc, ?_, fun _ => rfl⟩
      · simp; intro e; exact hc (UInt8.toNat_inj.1 (by show t[pos].toNat = 32; omega))
      · rw [okR, Pl.inW, Bool.eq_iff_iff]; simp; omega
  · have hh := decode_high t pos h (by omega)
    refine ⟨_, _, rfl, rfl, Or.inr ⟨by simp; omega, ?_, ?_, ?_⟩⟩
    · intro e; rw [e] at ha; exact ha (by decide)
    · rw [okR, Pl.inW, Bool.eq_iff_iff]; simp; omega
    · intro e; rw [okR] at e; simp at e; omega

/-- What the scanners keep in memory: the iterator, the words that have ended. -/
structure Keeps (t : ByteArray) (B K : Nat) (w wr : World) (pos : Nat) (v : Value) (out : List (List UInt8)) : Prop where
  it : wr.heap[K]? = some (.stringIter t pos)
  bel : Below B w wr
  own : wr.ownsRow B 9 1 v out.length (strs out)

theorem keeps_iter {t : ByteArray} {B K : Nat} {w wr : World} {pos : Nat} {v : Value} {out : List (List UInt8)} (h : Keeps t B K w wr pos v out) (hB : B ≤ K) (p : Nat) : Keeps t B K w (wr.iterAt K t p) p v out := by
  refine ⟨Lib.iterAt_heap wr K t pos p h.it, Lib.below_iterAt h.bel hB t p, h.own.1, ?_⟩
  rcases h.own.2 with hn | ⟨g, cap, cur, hv, hb, hg, rest⟩
  · exact Or.inl hn
  · refine Or.inr ⟨g, cap, cur, hv, hb, ?_, rest⟩
    rw [Lib.iterAt_other wr K g t p (fun e => by subst e; rw [h.it] at hg; cases hg)]
    exact hg

theorem keeps_below {t : ByteArray} {B K : Nat} {w W W1 : World} {pos : Nat} {v : Value} {out : List (List UInt8)} (h : Keeps t B K w W pos v out) (hB : B ≤ K) (hb : Below W.heap.size W W1) : Keeps t B K w W1 pos v out := by
  have hK : K < W.heap.size := (Array.getElem?_eq_some_iff.1 h.it).1
  refine ⟨(hb.block K hK).trans h.it, h.bel.trans (hb.mono (by omega)), h.own.1, ?_⟩
  rcases h.own.2 with hn | ⟨g, cap, cur, hv, hbg, hg, rest⟩
  · exact Or.inl hn
  · exact Or.inr ⟨g, cap, cur, hv, hbg, (hb.block g (Array.getElem?_eq_some_iff.1 hg).1).trans hg, rest⟩

theorem keeps_grown {t : ByteArray} {B K : Nat} {w W W1 : World} {pos : Nat} {v v' : Value} {out out' : List (List UInt8)} (h : Keeps t B K w W pos v out) (hB : B ≤ K) (hg : W.grownBy W1 v.ownBlock) (ho : W1.ownsRow B 9 1 v' out'.length (strs out')) : Keeps t B K w W1 pos v' out' := by
  have hK : K < W.heap.size := (Array.getElem?_eq_some_iff.1 h.it).1
  refine ⟨(hg.block K hK ?_).trans h.it, h.bel.grown hg (by omega) (fun k hk => (h.own.lt k hk).1), ho⟩
  intro e
  rcases h.own.2 with ⟨rfl, _⟩ | ⟨g, cap, cur, rfl, hb, hgg, rest⟩
  · cases e
  · have e2 : K = g := Option.some.inj e
    subst e2
    rw [h.it] at hgg; cases hgg

/-- Where the two texts stand: what is still to be read gives what the whole gives. -/
def At (t : ByteArray) (pos : Nat) (out : List (List UInt8)) (word : List UInt8) : Prop := Pl.sp (t.data.toList.drop pos ++ [32]) out word = Pl.sp (t.data.toList ++ [32]) [] []

theorem at_gap {t : ByteArray} {pos : Nat} {out : List (List UInt8)} (h : pos < t.size) (hc : t[pos] = 32) (hA : At t pos out []) : At t (pos + 1) out [] := by
  unfold At at hA ⊢
  rw [drop_at t pos h, hc, List.cons_append, Pl.sp_space_gap] at hA
  exact hA
theorem at_end {t : ByteArray} {pos : Nat} {out : List (List UInt8)} {word : List UInt8} (h : pos < t.size) (hc : t[pos] = 32) (hw : word ≠ []) (hA : At t pos out word) : At t (pos + 1) (out ++ [word]) [] := by
  unfold At at hA ⊢
  rw [drop_at t pos h, hc, List.cons_append, Pl.sp_space_word _ _ _ hw] at hA
  exact hA
theorem at_byte {t : ByteArray} {pos : Nat} {out : List (List UInt8)} {word : List UInt8} (h : pos < t.size) (hc : t[pos] ≠ 32) (hin : Pl.inW t[pos] = true) (hl : word.length < 24) (hA : At t pos out word) : At t (pos + 1) out (word ++ [t[pos]]) := by
  unfold At at hA ⊢
  rw [drop_at t pos h, List.cons_append, Pl.sp_byte _ _ _ _ hc hin (by omega)] at hA
  exact hA
theorem at_bad {s t : ByteArray} {pos : Nat} {out : List (List UInt8)} {word : List UInt8} (ht : t.data.toList = Pl.bare s.data.toList) (h : pos < t.size) (hc : t[pos] ≠ 32) (hin : Pl.inW t[pos] = false) (hA : At t pos out word) : Pl.words s.data.toList = ([], false) := by
  unfold At at hA
  rw [drop_at t pos h, List.cons_append, Pl.sp_bad _ _ _ _ hc hin] at hA
  rw [Pl.words, ← ht, ← hA]; rfl
theorem at_long {s t : ByteArray} {pos : Nat} {out : List (List UInt8)} {word : List UInt8} (ht : t.data.toList = Pl.bare s.data.toList) (h : pos < t.size) (hc : t[pos] ≠ 32) (hl : 24 ≤ word.length) (hA : At t pos out word) : Pl.words s.data.toList = ([], false) := by
  unfold At at hA
  rw [drop_at t pos h, List.cons_append, Pl.sp_long _ _ _ _ hc hl] at hA
  rw [Pl.words, ← ht, ← hA]; rfl
theorem at_many {s t : ByteArray} {pos : Nat} {out : List (List UInt8)} (ht : t.data.toList = Pl.bare s.data.toList) (h : pos < t.size) (hc : t[pos] ≠ 32) (hin : Pl.inW t[pos] = true) (hl : 16 ≤ out.length) (hA : At t pos out []) : Pl.words s.data.toList = ([], false) := by
  have h2 := at_byte h hc hin (by simp) hA
  unfold At at h2
  rw [Pl.words, ← ht, ← h2]
  exact Pl.fin_open _ _ _ (by simp) hl
theorem at_last {s t : ByteArray} {pos : Nat} {out : List (List UInt8)} (ht : t.data.toList = Pl.bare s.data.toList) (h : ¬ pos < t.size) (hl : out.length ≤ 16) (hA : At t pos out []) : Pl.words s.data.toList = (out, true) := by
  unfold At at hA
  rw [List.drop_of_length_le (by rw [← size_list]; omega), List.nil_append, Pl.sp_space_gap] at hA
  rw [Pl.words, ← ht, ← hA]
  simp [Pl.sp, Pl.fin, hl]
theorem at_lastw {s t : ByteArray} {pos : Nat} {out : List (List UInt8)} {word : List UInt8} (ht : t.data.toList = Pl.bare s.data.toList) (h : ¬ pos < t.size) (hl : out.length < 16) (hw : word ≠ []) (hA : At t pos out word) : Pl.words s.data.toList = (out ++ [word], true) := by
  unfold At at hA
  rw [List.drop_of_length_le (by rw [← size_list]; omega), List.nil_append, Pl.sp_space_word _ _ _ hw] at hA
  rw [Pl.words, ← ht, ← hA]
  have : out.length + 1 ≤ 16 := hl
  simp [Pl.sp, Pl.fin, this]

theorem cut_push {t : ByteArray} {f pos : Nat} (hf : f ≤ pos) (h : pos < t.size) : (t.extract f (pos + 1)).data.toList = (t.extract f pos).data.toList ++ [t[pos]] := by
  rw [ByteArray.data_extract, ByteArray.data_extract, Array.toList_extract, Array.toList_extract, List.extract_eq_take_drop, List.extract_eq_take_drop]
  rw [show pos + 1 - f = (pos - f) + 1 from by omega, List.take_succ_eq_append_getElem (by rw [List.length_drop, ← size_list]; omega)]
  have hg : (t.data.toList.drop f)[pos - f]? = some t[pos] := by
    rw [List.getElem?_drop, show f + (pos - f) = pos from by omega]; exact get_list t pos h
  have hg2 := (List.getElem?_eq_some_iff.1 hg).2
  rw [hg2]
theorem cut_one {t : ByteArray} {pos : Nat} (h : pos < t.size) : (t.extract pos (pos + 1)).data.toList = [] ++ [t[pos]] := by
  rw [cut_push (Nat.le_refl _) h]
  congr 1
  rw [ByteArray.data_extract, Array.toList_extract, List.extract_eq_take_drop]; simp
theorem cut_len {t : ByteArray} {f pos : Nat} (h : pos ≤ t.size) : (t.extract f pos).data.toList.length = pos - f := by
  rw [← size_list]; simp; omega

end Go.Proofs.Ytbdhlcfcmennjaa
