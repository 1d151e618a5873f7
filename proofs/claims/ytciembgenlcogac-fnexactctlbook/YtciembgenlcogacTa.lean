/-
  Contracts of the law's own copying of a list of texts and of single elements.
-/
import Derived.Test.YtciembgenlcogacSa
import Derived.Test.YtciembgenlcogacVb
import Derived.Laws.MakeOwn
import Derived.Laws.ResultCell
namespace Go.Proofs.Ytciembgenlcogac
open Go.RowKit

theorem under24 : Try.prog.underlying 22 = some (.slice 9) := by kernel_rfl
theorem info9' : (Try.prog.info? 9).map (fun i => (i.zero, i.size, i.bytes)) = some (some (.string ByteArray.empty), 1, 16) := by kernel_rfl

/-- Block g lies below B, and has m cells of a type, none of them frozen. -/
def Blk (B : Nat) (w : World) (g t m : Nat) : Prop := g < B ∧ ∃ c, w.heap[g]? = some (.cells c t (0, 0)) ∧ c.size = m
theorem Blk.kept {B B' : Nat} {w w' : World} {g t m : Nat} (h : Blk B w g t m) (hb : Below B' w w') (hB : B ≤ B') : Blk B w' g t m := by
  obtain ⟨h1, c, h2, h3⟩ := h
  exact ⟨h1, c, (hb.block g (by omega)).trans h2, h3⟩
theorem Blk.set {B : Nat} {w : World} {g t m : Nat} (h : Blk B w g t m) (p : Addr) (x : Value) (hne : p.block ≠ g) : Blk B (w.setCell p x) g t m := by
  obtain ⟨h1, c, h2, h3⟩ := h
  exact ⟨h1, c, (Below.heap_setCell w p x g (fun e => hne e.symm)).trans h2, h3⟩
theorem Blk.up {B B' : Nat} {w : World} {g t m : Nat} (h : Blk B w g t m) (hB : B ≤ B') : Blk B' w g t m := by
  obtain ⟨h1, h2⟩ := h
  exact ⟨by omega, h2⟩

set_option maxRecDepth 100000 in
set_option maxHeartbeats 1000000 in
theorem toS_blk (B : Nat) (v : Value) (n : Nat) (f : Nat → ByteArray) (w : World) (h : Lst B w v n 1 (cS f)) (hB : B ≤ w.heap.size) (hm : n ≤ 1048576) :
    Calls Try.prog 18 #[v] w fun e w' => e = .returned (.slice (some ⟨w.heap.size, 0, none⟩) n n) ∧ Lst w'.heap.size w' (.slice (some ⟨w.heap.size, 0, none⟩) n n) n 1 (cS f) ∧ Blk w'.heap.size w' w.heap.size 9 (n) ∧ Below w.heap.size w w' := by
  obtain ⟨oa, cap, rfl, hn, hc⟩ := h
  have HC : Hid _ := hc
  clear hc hn
  obtain ⟨i0, hi, hz0, hz1, hz2⟩ := info_parts info9'
  obtain ⟨M, hM⟩ : ∃ M, M = madeCells (Value.string ByteArray.empty).cells ((n : Int).toNat * i0.size) := ⟨_, rfl⟩
  have hMs : M.size = n := by rw [hM, size_madeCells, hz1]; simp
  have hmk : ∀ W : World, (Instr.makeSlice 22 (.int .i64 (n : Int)) (.int .i64 (n : Int))).run Try.prog W = .ok (.slice (some ⟨W.heap.size, 0, none⟩) n n) (W.alloc (.cells M 9)) := fun W => by
    have h := run_make (P := Try.prog) W 22 9 i0 (.string ByteArray.empty) under24 hi hz0 .i64 .i64 (n : Int) (n : Int) (by omega) (by omega) (by rw [hz2]; omega) (by omega)
    rw [← hM] at h
    simpa using h
  clear hM
  go_enter Try.func18, Try.ntmps18
  go_wp2
  go_loopw [4] (fun i wr => ∃ (k : Nat) (c : Array Value), k ≤ n ∧ i = .int .i64 k ∧ Hid (wr.heap[w.heap.size]? = some (.cells c 9 (0, 0))) ∧ c.size = n ∧ Hid (∀ j, j < k → c[j]? = some (.string (f j))) ∧ Hid (Below w.heap.size w wr)) (fun i _ => n - (intOf i).toNat)
  case atStart => exact ⟨0, M, Nat.zero_le _, rfl, heap_alloc_new w _, hMs, fun _ h => by omega, (Below.refl _ _).alloc (Nat.le_refl _) _⟩
  case round =>
    obtain ⟨k, c, hk, rfl, hrow, hcs, hall, hbel⟩ := hrel
    by_cases hlt : k < n
    · obtain ⟨b, off, rfl, hbB, hcell⟩ := HC.out k hlt
      have e0 : wr.cell? ⟨b, off + k, none⟩ = some (.string (f k)) := (hbel.out.cell (p := ⟨b, off + k, none⟩) (by show b < _; omega)).trans (by simpa [cS] using hcell 0 (by omega))
      obtain ⟨v0, hv0⟩ : ∃ v0, c[k]? = some v0 := ⟨_, Array.getElem?_eq_getElem (by omega)⟩
      obtain ⟨hcl, hfr⟩ := cell_row hrow.out k v0 hv0
      clear hv0
      go_wp2
      go_roundw
      case rel =>
        refine ⟨k + 1, c.setIfInBounds k (.string (f k)), by omega, by go_num, set_row hrow.out k _, by simpa using hcs, ?_, hbel.out.setCell (Nat.le_refl _) _⟩
        intro j hj
        by_cases e : j = k
        · subst e; exact set_at c j _ (by omega)
        · rw [Array.getElem?_setIfInBounds_ne (fun h => e h.symm)]
          exact hall.out j (by omega)
      case measure => simp [intOf]; omega
    · go_wp2
      go_ret
      refine ⟨rfl, ⟨_, _, rfl, by unfold maxLen; omega, fun i hi => ⟨w.heap.size, 0, rfl, (Array.getElem?_eq_some_iff.1 hrow.out).1, fun j hj => ?_⟩⟩, ⟨(Array.getElem?_eq_some_iff.1 hrow.out).1, c, hrow.out, hcs⟩, hbel.out⟩
      have e : 0 + i * 1 + j = i := by omega
      rw [e]
      exact (cell_row hrow.out i _ (hall.out i (by omega))).1

theorem toS_any (B : Nat) (v : Value) (n : Nat) (f : Nat → ByteArray) (w : World) (h : Lst B w v n 1 (cS f)) (hB : B ≤ w.heap.size) (hm : n ≤ 1048576) :
    Calls Try.prog 18 #[v] w fun e w' => e = .returned (.slice (some ⟨w.heap.size, 0, none⟩) n n) ∧ Lst w'.heap.size w' (.slice (some ⟨w.heap.size, 0, none⟩) n n) n 1 (cS f) ∧ Below w.heap.size w w' :=
  (toS_blk B v n f w h hB hm).mono fun _ _ ⟨h1, h2, _, h3⟩ => ⟨h1, h2, h3⟩

set_option maxRecDepth 100000 in
set_option maxHeartbeats 1000000 in
theorem toFoe_any (a b : ByteArray) (w : World) : Calls Try.prog 50 #[.agg #[.string a, .string b]] w fun e w' => e = .returned (.agg #[.string a, .string b]) ∧ Below w.heap.size w w' := by
  go_enter Try.func50, Try.ntmps50
  go_wp2
  exact bodyPost_ret (v := .agg #[.string a, .string b]) (by simp [results, Try.results50, go_sem]) rfl ⟨rfl, by repeat (first | exact Below.refl _ _ | refine Below.alloc ?_ (by simp; try omega) _)⟩

end Go.Proofs.Ytciembgenlcogac
