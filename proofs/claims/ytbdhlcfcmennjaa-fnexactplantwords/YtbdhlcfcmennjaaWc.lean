/-
  The contract of the specification's own cutting into words.
-/
import Derived.Test.YtbdhlcfcmennjaaWa
namespace Go.Proofs.Ytbdhlcfcmennjaa
open Go.RowKit

/-- Texts as the cells of a list of texts. -/
def strs (l : List (List UInt8)) : List Value := l.map fun x => .string ⟨x.toArray⟩
theorem strs_len (l : List (List UInt8)) : (strs l).length = l.length := by simp [strs]

theorem under42 : Try.prog.underlying 24 = some (.slice 9) := by kernel_rfl

theorem bare_size (s t : ByteArray) (ht : t.data.toList = Pl.bare s.data.toList) : t.size ≤ s.size := by
  obtain ⟨k, h1, h2, _⟩ := Pl.bare_take s.data.toList
  rw [size_list t, ht, h2, size_list s]; simp; omega

theorem app32 (t : ByteArray) (l : List UInt8) (h : t.data.toList = l) : (t ++ ⟨#[32]⟩ : ByteArray).data.toList = l ++ [32] := by
  rw [ByteArray.data_append, Array.toList_append, h]

theorem drop_at (T : ByteArray) (k : Nat) (h : k < T.size) : T.data.toList.drop k = T[k] :: T.data.toList.drop (k + 1) := by
  rw [List.drop_eq_getElem_cons (by rw [← size_list]; exact h)]; rfl
theorem is32 {c : UInt8} (h : ((c.toNat : Int) != 32) = false) : c = 32 := by
  have h1 : (c.toNat : Int) = 32 := by simpa using h
  exact UInt8.toNat_inj.1 (by show c.toNat = 32; omega)
theorem not32 {c : UInt8} (h : ((c.toNat : Int) != 32) = true) : c ≠ 32 := by
  intro e; subst e; exact absurd h (by decide)
theorem okR_byte (c : UInt8) : okR (wrap64 (c.toNat : Int)) = Pl.inW c := by
  have h := c.toNat_lt
  have e : wrap64 (c.toNat : Int) = c.toNat := by unfold wrap64; omega
  rw [e, okR, Pl.inW]
  rw [Bool.eq_iff_iff]; simp; omega
theorem push_at (d T : ByteArray) (k : Nat) (h : k < T.size) : (d ++ T.extract k (k + 1)).data.toList = d.data.toList ++ [T[k]] := by
  rw [ByteArray.data_append, Array.toList_append, ByteArray.data_extract]
  congr 1
  rw [Array.toList_extract, List.extract_eq_take_drop]
  have := drop_at T k h
  rw [this]; simp
theorem push_size (d T : ByteArray) (k : Nat) (h : k < T.size) : (d ++ T.extract k (k + 1)).size = d.size + 1 := by
  rw [size_list, push_at d T k h, List.length_append, ← size_list]; rfl
theorem empty_of {d : ByteArray} (h : d.size = 0) : d.data.toList = [] := by
  have := size_list d; exact List.eq_nil_of_length_eq_zero (by omega)
theorem isEmpty_of {d : ByteArray} : d.toList.isEmpty = d.data.toList.isEmpty := by rw [ByteArray.toList_eq]
theorem slice_of {w : World} {B : Nat} {v : Value} {n : Nat} {xs : List Value} (h : w.ownsRow B 9 1 v n xs) : ∃ oa cap, v = .slice oa n cap := by
  rcases h.2 with ⟨rfl, rfl⟩ | ⟨g, cap, cur, rfl, _⟩
  · exact ⟨_, _, rfl⟩
  · exact ⟨_, _, rfl⟩

theorem step_gap {T : ByteArray} {k : Nat} {out : List (List UInt8)} {d : ByteArray} {x : Option (List (List UInt8))} (hk : k < T.size) (h32 : ((T[k].toNat : Int) != 32) = false) (hd : d.data.toList = [])
    (h : Pl.sp (T.data.toList.drop k) out d.data.toList = x) : Pl.sp (T.data.toList.drop (k + 1)) out d.data.toList = x := by
  rw [drop_at T k hk, is32 h32, hd, Pl.sp_space_gap] at h
  rw [hd]; exact h
theorem step_end {T : ByteArray} {k : Nat} {out : List (List UInt8)} {d : ByteArray} {x : Option (List (List UInt8))} (hk : k < T.size) (h32 : ((T[k].toNat : Int) != 32) = false) (hd : d.data.toList ≠ [])
    (h : Pl.sp (T.data.toList.drop k) out d.data.toList = x) : Pl.sp (T.data.toList.drop (k + 1)) (out ++ [d.data.toList]) [] = x := by
  rw [drop_at T k hk, is32 h32, Pl.sp_space_word _ _ _ hd] at h
  exact h
theorem step_byte {T : ByteArray} {k : Nat} {out : List (List UInt8)} {d : ByteArray} {x : Option (List (List UInt8))} (hk : k < T.size) (h32 : ((T[k].toNat : Int) != 32) = true) (hin : okR (wrap64 (T[k].toNat : Int)) = true) (hd : d.size < 24)
    (h : Pl.sp (T.data.toList.drop k) out d.data.toList = x) : Pl.sp (T.data.toList.drop (k + 1)) out (d ++ T.extract k (k + 1)).data.toList = x := by
  rw [drop_at T k hk, Pl.sp_byte _ _ _ _ (not32 h32) (by rw [← okR_byte]; exact hin) (by rw [← size_list]; omega)] at h
  rw [push_at d T k hk]; exact h
theorem step_long {T : ByteArray} {k : Nat} {out : List (List UInt8)} {d : ByteArray} {x : Option (List (List UInt8))} (hk : k < T.size) (h32 : ((T[k].toNat : Int) != 32) = true) (hd : ¬ d.size < 24)
    (h : Pl.sp (T.data.toList.drop k) out d.data.toList = x) : x = none := by
  rw [drop_at T k hk, Pl.sp_long _ _ _ _ (not32 h32) (by rw [← size_list]; omega)] at h
  exact h.symm
theorem step_bad {T : ByteArray} {k : Nat} {out : List (List UInt8)} {d : ByteArray} {x : Option (List (List UInt8))} (hk : k < T.size) (h32 : ((T[k].toNat : Int) != 32) = true) (hin : okR (wrap64 (T[k].toNat : Int)) = false)
    (h : Pl.sp (T.data.toList.drop k) out d.data.toList = x) : x = none := by
  rw [drop_at T k hk, Pl.sp_bad _ _ _ _ (not32 h32) (by rw [← okR_byte]; exact hin)] at h
  exact h.symm

theorem Try.info9 : (Try.prog.info? 9).map (fun i => (i.zero, i.size, i.bytes)) = some (some (.string ByteArray.empty), 1, 16) := by kernel_rfl

/-- The answer where a line is refused. -/
theorem words_none {s : ByteArray} {T : ByteArray} (hT : T.data.toList = Pl.bare s.data.toList ++ [32]) (h : Pl.sp T.data.toList [] [] = none) : Pl.words s.data.toList = ([], false) := by
  rw [Pl.words, ← hT, h]; rfl
theorem words_some {s : ByteArray} {T : ByteArray} {out : List (List UInt8)} (hT : T.data.toList = Pl.bare s.data.toList ++ [32]) (h : Pl.sp T.data.toList [] [] = some out) : Pl.words s.data.toList = if out.length ≤ 16 then (out, true) else ([], false) := by
  rw [Pl.words, ← hT, h]; rfl

set_option maxRecDepth 100000 in
set_option maxHeartbeats 1000000 in
theorem spec_any (s : ByteArray) (w : World) (hs : s.size ≤ 1048576) :
    Calls Try.prog 8 #[.string s] w fun e w' => ∃ v, e = .returned (.tuple #[v, .bool (Pl.words s.data.toList).2]) ∧
      w'.ownsRow w.heap.size 9 1 v (Pl.words s.data.toList).1.length (strs (Pl.words s.data.toList).1) ∧ Below w.heap.size w w' := by
  obtain ⟨i0, hi, hz0, hz1, hz2⟩ := info_parts Try.info9
  go_enter Try.func8, Try.ntmps8
  go_wp2_with (go_at_call 25; refine (bare_any _ _ (by unfold maxLen; omega)).mono ?_; rintro e w1 ⟨⟨t, rfl, ht⟩, rfl⟩; have hts := bare_size s t ht)
  have hT : Hid ((t ++ ⟨#[32]⟩ : ByteArray).data.toList = Pl.bare s.data.toList ++ [32]) := app32 t _ ht
  have hTs : (t ++ ⟨#[32]⟩ : ByteArray).size ≤ 1048577 := by
    have e1 : (⟨#[32]⟩ : ByteArray).size = 1 := rfl
    rw [ByteArray.size_append, e1]; omega
  clear ht
  generalize (t ++ ⟨#[32]⟩ : ByteArray) = T at hT hTs ⊢
  go_loopw [4, 5, 7] (fun v u i wr => ∃ (k : Nat) (out : List (List UInt8)) (d : ByteArray), k ≤ T.size ∧ i = .int .i64 k ∧ u = .string d ∧ wr.ownsRow w.heap.size 9 1 v out.length (strs out) ∧ out.length ≤ k ∧ d.size ≤ 24 ∧ Below w.heap.size w wr ∧
      Hid (Pl.sp (T.data.toList.drop k) out d.data.toList = Pl.sp T.data.toList [] [])) (fun _ _ i _ => T.size - (intOf i).toNat)
  case atStart => exact ⟨0, [], ⟨#[]⟩, Nat.zero_le _, rfl, rfl, World.ownsRow_made w #[] 0 (Nat.le_refl _) (Nat.zero_le _) rfl, Nat.le_refl _, Nat.zero_le _, (Below.refl _ _).alloc (Nat.le_refl _) _, rfl⟩
  case round =>
    obtain ⟨k, out, d, hk, rfl, rfl, hown, hol, hdl, hbel, hsp⟩ := hrel
    have hsz := hbel.size
    by_cases hlt : k < T.size
    · by_cases h32 : (T[k].toNat : Int) = 32
      · have h32b : ((T[k].toNat : Int) != 32) = false := by rw [h32]; rfl
        clear h32
        by_cases hd : d.size = 0
        · have hde : d.toList.isEmpty = true := by rw [isEmpty_of, empty_of hd]; rfl
          go_wp2
          go_roundw
          case rel => exact ⟨k + 1, out, d, by omega, by go_num, rfl, hown, by omega, hdl, hbel, step_gap hlt h32b (empty_of hd) hsp.out⟩
          case measure => simp [intOf]; omega
        · have hdn : d.data.toList ≠ [] := fun e => hd (by rw [size_list, e]; rfl)
          have hde : d.toList.isEmpty = false := by rw [isEmpty_of]; simpa using hdn
          have HD : Hid _ := hdn
          clear hdn
          go_wp2_with (first
            | (at_builtin; refine wpList_append_own _ rfl _ _ 24 rfl w.heap.size 9 i0 (.string ByteArray.empty) 1 16 under42 hi hz0 hz1 hz2 rfl (by decide) _ _ _ rfl (hown.alloc _) ⟨wr.heap.size, 0, none⟩ 1 1 [.string d] rfl rfl (cell_one_new _ _ _) (fun x hx => by simp at hx; subst hx; rfl) (by unfold maxLen; omega) (by omega) (by simp; omega) ?_; intro v' w3 hown' hgrow3 hnil3))
          go_roundw
          case rel =>
            have R : ∃ (k' : Nat) (out' : List (List UInt8)) (d' : ByteArray), k' ≤ T.size ∧ Value.int .i64 ((k : Int) + 1) = .int .i64 (k' : Int) ∧ Value.string ⟨#[]⟩ = .string d' ∧ w3.ownsRow w.heap.size 9 1 v' out'.length (strs out') ∧ out'.length ≤ k' ∧ d'.size ≤ 24 ∧ Below w.heap.size w w3 ∧
                Hid (Pl.sp (T.data.toList.drop k') out' d'.data.toList = Pl.sp T.data.toList [] []) :=
              ⟨k + 1, out ++ [d.data.toList], ⟨#[]⟩, by omega, by go_num, rfl, by rw [List.length_append]; simpa [strs] using hown', by simp; omega, Nat.zero_le _, (hbel.alloc hsz _).grown hgrow3 (by simp; omega) (fun q hq => (hown.lt q hq).1), step_end hlt h32b HD.out hsp.out⟩
            first
              | exact R
              | ((repeat apply Exists.intro); exact ⟨R, rfl⟩)
          case measure => simp [intOf]; omega
      · have h32b : ((T[k].toNat : Int) != 32) = true := by rw [bne_iff_ne]; exact h32
        clear h32
        by_cases hin : okR (wrap64 T[k].toNat) = true
        · have hps := push_size d T k hlt
          have hmin : ((min (k + 1) T.size - k : Nat) : Int) = 1 := by omega
          by_cases hd : d.size < 24
          · have hnl : (24 : Int) ≥ (d.size : Int) + ((min (k + 1) T.size - k : Nat) : Int) := by omega
            go_wp2_with (go_at_call 26; refine (in_any _ _).mono ?_; rintro e w1 ⟨rfl, rfl⟩)
            go_roundw
            case rel => exact ⟨k + 1, out, _, by omega, by go_num, rfl, hown, by omega, by rw [hps]; omega, hbel, step_byte hlt h32b hin hd hsp.out⟩
            case measure => simp [intOf]; omega
          · have hnl : (24 : Int) < (d.size : Int) + ((min (k + 1) T.size - k : Nat) : Int) := by omega
            go_wp2_with (go_at_call 26; refine (in_any _ _).mono ?_; rintro e w1 ⟨rfl, rfl⟩)
            have hno := words_none hT.out (step_long hlt h32b hd hsp.out)
            rw [hno]
            go_ret2
            exact ⟨_, rfl, World.ownsRow_made _ #[] 0 hsz (Nat.zero_le _) rfl, hbel.alloc hsz _⟩
        · have hin2 : okR (wrap64 T[k].toNat) = false := by simpa using hin
          clear hin
          go_wp2_with (go_at_call 26; refine (in_any _ _).mono ?_; rintro e w1 ⟨rfl, rfl⟩)
          have hno := words_none hT.out (step_bad hlt h32b hin2 hsp.out)
          rw [hno]
          go_ret2
          exact ⟨_, rfl, World.ownsRow_made _ #[] 0 hsz (Nat.zero_le _) rfl, hbel.alloc hsz _⟩
    · obtain ⟨oa, cap, rfl⟩ := slice_of hown
      have hout := words_some hT.out (by rw [← hsp.out, List.drop_of_length_le (by rw [← size_list]; omega)]; rfl)
      have HO : Hid _ := hout
      clear hout
      by_cases h16 : out.length ≤ 16
      · go_wp2
        rw [HO.out, if_pos h16]
        go_ret2
        exact ⟨_, rfl, hown, hbel⟩
      · go_wp2
        rw [HO.out, if_neg h16]
        go_ret2
        exact ⟨_, rfl, World.ownsRow_made _ #[] 0 hsz (Nat.zero_le _) rfl, hbel.alloc hsz _⟩

end Go.Proofs.Ytbdhlcfcmennjaa
