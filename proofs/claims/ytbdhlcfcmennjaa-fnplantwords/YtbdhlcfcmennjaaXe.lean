/-
  The law FnPlantWords, walked: whatever the code, the call returns true, and nothing that was there before has turned.
-/
import Derived.Test.YtbdhlcfcmennjaaXc
import Derived.Test.YtbdhlcfcmennjaaXd
import Derived.Test.YtbdhlcfcmennjaaWh
namespace Go.Proofs.Ytbdhlcfcmennjaa
open Go.RowKit

set_option maxHeartbeats 400000 in
theorem wp_any (oa ob : Option Addr) (n ca cb : Nat) (f : Nat → ByteArray) (w : World) (hn : n ≤ maxLen)
    (ha : ∀ i, i < n → ∃ g, oa = some ⟨g, 0, none⟩ ∧ w.cell? ⟨g, i, none⟩ = some (.string (f i)))
    (hb : ∀ i, i < n → ∃ g, ob = some ⟨g, 0, none⟩ ∧ w.cell? ⟨g, i, none⟩ = some (.string (f i))) :
    Calls Try.prog 9 #[.slice oa n ca, .slice ob n cb] w fun e w' => e = .returned (.bool true) ∧ ∃ q, w' = w.drewN q := by
  unfold maxLen at hn
  have HA : Hid _ := ha
  have HB : Hid _ := hb
  clear ha hb
  go_enter Try.func9, Try.ntmps9
  go_wp2
  go_loopw [5] (fun i wr => ∃ k q : Nat, k ≤ n ∧ i = .int .i64 k ∧ wr = w.drewN q) (fun i _ => n - (intOf i).toNat)
  case atStart => exact ⟨0, 0, Nat.zero_le _, rfl, rfl⟩
  case round =>
    obtain ⟨k, q, hk, rfl, rfl⟩ := hrel
    by_cases hlt : k < n
    · obtain ⟨ga, rfl, hca⟩ := HA.out k hlt
      obtain ⟨gb, rfl, hcb⟩ := HB.out k hlt
      go_wp2
      go_region
      go_wp2
      go_roundw
      case rel => exact ⟨k + 1, q + 1, by omega, by go_num, rfl⟩
      case measure => simp [intOf]; omega
    · go_wp2
      go_ret
      exact ⟨rfl, q, rfl⟩

theorem wp_reads (B B' : Nat) (va vb : Value) (n : Nat) (f : Nat → ByteArray) (w : World) (hn : n ≤ 1000000) (ha : Reads B w va n f) (hb : Reads B' w vb n f) :
    Calls Try.prog 9 #[va, vb] w fun e w' => e = .returned (.bool true) ∧ Below w.heap.size w w' := by
  obtain ⟨oa, ca, rfl, hca⟩ := ha
  obtain ⟨ob, cb, rfl, hcb⟩ := hb
  refine (wp_any oa ob n ca cb f w (by unfold maxLen; omega) (fun i hi => ?_) (fun i hi => ?_)).mono ?_
  · obtain ⟨g, h1, h2, h3⟩ := hca i hi; exact ⟨g, h1, h3⟩
  · obtain ⟨g, h1, h2, h3⟩ := hcb i hi; exact ⟨g, h1, h3⟩
  · rintro e w' ⟨rfl, q, rfl⟩
    exact ⟨rfl, Below.drewN (Below.refl _ _) q⟩

theorem good_take {ws : List (List UInt8)} (h : Pl.Good ws) (k : Nat) : Pl.Good (ws.take k) := fun w hw => h w (List.mem_of_mem_take hw)

theorem join_next (ws : List (List UInt8)) (d : ByteArray) (k : Nat) (hk : k < ws.length) (hd : d.data.toList = Pl.join (ws.take k)) :
    ((d ++ ⟨#[32]⟩) ++ nth ws k : ByteArray).data.toList = Pl.join (ws.take (k + 1)) := by
  rw [List.take_succ_eq_append_getElem hk, Pl.join_snoc, ByteArray.data_append, ByteArray.data_append, Array.toList_append, Array.toList_append, hd]
  simp [nth, hk]

theorem join_size {ws : List (List UInt8)} (hg : Pl.Good ws) (hn : ws.length ≤ 16) (d : ByteArray) (k : Nat) (hd : d.data.toList = Pl.join (ws.take k)) : d.size ≤ 400 := by
  have h := Pl.join_len (ws.take k) (good_take hg k)
  have hl : (ws.take k).length ≤ 16 := by rw [List.length_take]; omega
  rw [size_list, hd]; omega

theorem nth_size {ws : List (List UInt8)} (hg : Pl.Good ws) (k : Nat) : (nth ws k).size ≤ 24 := by
  rw [size_list]
  simp only [nth, List.getD]
  cases h : ws[k]? with
  | none => simp
  | some x => simpa using (hg x (List.mem_of_getElem? h)).2.1

theorem impl_again (d t : ByteArray) (ws : List (List UInt8)) (w : World) (hd : d.data.toList = Pl.join ws) (h1 : d.size ≤ 400) (h2 : t.size ≤ 2000) (ha : Pl.words (Pl.join ws ++ [32, 35, 32] ++ t.data.toList) = (ws, true)) :
    Calls Try.prog 7 #[.string (d ++ ⟨#[32, 35, 32]⟩ ++ t)] w fun e w' => ∃ v, e = .returned (.tuple #[v, .bool true]) ∧ w'.ownsRow w.heap.size 9 1 v ws.length (strs ws) ∧ Below w.heap.size w w' := by
  have hs : (d ++ ⟨#[32, 35, 32]⟩ ++ t : ByteArray).size ≤ 1048576 := by
    have e : (⟨#[32, 35, 32]⟩ : ByteArray).size = 3 := rfl
    rw [ByteArray.size_append, ByteArray.size_append, e]; omega
  have hl : (d ++ ⟨#[32, 35, 32]⟩ ++ t : ByteArray).data.toList = Pl.join ws ++ [32, 35, 32] ++ t.data.toList := by
    rw [ByteArray.data_append, ByteArray.data_append, Array.toList_append, Array.toList_append, hd]
  have h := impl_any (d ++ ⟨#[32, 35, 32]⟩ ++ t) w hs
  rw [hl, ha] at h
  exact h

set_option maxRecDepth 100000 in
set_option maxHeartbeats 1000000 in
theorem lawPw_any (ob : Option Addr) (n cb : Nat) (f : Nat → Int) (w : World) (hn : n ≤ maxLen) (hnc : n ≤ cb) (fb : ∀ i, 0 ≤ f i ∧ f i ≤ 255)
    (ce : ∀ i, i < n → ∃ b off, ob = some ⟨b, off, none⟩ ∧ b < w.heap.size ∧ w.cell? ⟨b, off + i, none⟩ = some (.int .u8 (f i))) :
    Calls Try.prog 3 #[.slice ob n cb] w fun e w' => e = .returned (.bool true) ∧ Below w.heap.size w w' := by
  have hn' := hn
  unfold maxLen at hn'
  by_cases hbig : n ≤ 1048576
  · have HF : Hid _ := fb
    have HC : Hid _ := ce
    clear fb ce
    go_enter Try.func3, Try.ntmps3
    go_wp2_with fail
    refine (draw_any ob n cb f w hn hnc HF.out HC.out).mono ?_
    rintro e w1 ⟨t, rfl, ht, hb1⟩
    have hle := words_le t.data.toList
    have hgood := Pl.words_good t.data.toList
    have him := fun W => impl_any t W (by omega)
    have hsp := fun W => spec_any t W (by omega)
    have hag := Pl.words_again (Pl.words t.data.toList).1 t.data.toList hgood hle
    generalize Pl.words t.data.toList = ans at him hsp hle hgood hag
    obtain ⟨ws, b⟩ := ans
    simp only at hle hgood hag
    have HI : Hid _ := him
    have HS : Hid _ := hsp
    have HG : Hid (Pl.Good ws) := hgood
    have HA : Hid (Pl.words (Pl.join ws ++ [32, 35, 32] ++ t.data.toList) = (ws, true)) := hag
    clear him hsp hgood hag
    have s1 := hb1.size
    cases b
    all_goals
      go_wp2_with fail
      refine (HI.out _).mono ?_; rintro e w2 ⟨v1, rfl, hown1, hb2⟩
      have H1 : Hid (Reads w2.heap.size w2 v1 ws.length (nth ws)) := reads_own hown1
      clear hown1
      have s2 := hb2.size
      go_wp2_with fail
      refine (HS.out _).mono ?_; rintro e w3 ⟨v0, rfl, hown0, hb3⟩
      have H0 : Hid (Reads w3.heap.size w3 v0 ws.length (nth ws)) := reads_own hown0
      clear hown0
      have s3 := hb3.size
      go_wp2_with fail
      refine (wp_reads _ _ v1 v0 ws.length (nth ws) _ (by omega) (H1.out.kept hb3 (Nat.le_refl _)) H0.out).mono ?_; rintro e w4 ⟨rfl, hb4⟩
      have s4 := hb4.size
      have H4 : Hid (Reads w2.heap.size w4 v1 ws.length (nth ws)) := (H1.out.kept hb3 (Nat.le_refl _)).kept hb4 s3
      have H4' := H4
      obtain ⟨oa, ca, rfl, hca⟩ := H4'
      have HCA : Hid _ := hca
      clear hca
      go_wp2_with fail
      go_loop [8, 9] (fun s8 s9 => ∃ (k : Nat) (d : ByteArray), k ≤ ws.length ∧ s8 = .string d ∧ s9 = .int .i64 k ∧ Hid (d.data.toList = Pl.join (ws.take k))) (fun _ i => ws.length - (intOf i).toNat)
      case atStart => exact ⟨0, ⟨#[]⟩, Nat.zero_le _, rfl, rfl, by simp [Hid, Pl.join]⟩
      case round =>
        obtain ⟨k, d, hk, rfl, rfl, hd⟩ := hrel
        have hds := join_size HG.out hle d k hd.out
        have hns := nth_size HG.out k
        by_cases hlt : k < ws.length
        · obtain ⟨g, rfl, _, hcell⟩ := HCA.out k hlt
          go_wp2_with fail
          go_round
          case rel => exact ⟨k + 1, _, by omega, rfl, by go_num, join_next ws d k hlt hd.out⟩
          case measure => simp [intOf]; omega
        · have hkn : k = ws.length := by omega
          subst hkn
          go_wp2_with fail
          refine (impl_again d t ws _ (by rw [hd.out, List.take_of_length_le (Nat.le_refl _)]) (by omega) (by omega) HA.out).mono ?_; rintro e w5 ⟨v2, rfl, hown2, hb5⟩
          have H2 : Hid (Reads w5.heap.size w5 v2 ws.length (nth ws)) := reads_own hown2
          clear hown2
          go_wp2_with fail
          refine (wp_reads _ _ v2 _ ws.length (nth ws) _ (by omega) H2.out (H4.out.kept hb5 (by omega))).mono ?_; rintro e w6 ⟨rfl, hb6⟩
          go_wp2_with fail
          go_ret
          have s5 := hb5.size
          exact ⟨rfl, ((((hb1.trans (hb2.mono s1)).trans (hb3.mono (by omega))).trans (hb4.mono (by omega))).trans (hb5.mono (by omega))).trans (hb6.mono (by omega))⟩
  · go_enter Try.func3, Try.ntmps3
    go_wp2
    go_ret
    exact ⟨rfl, Below.refl _ _⟩

end Go.Proofs.Ytbdhlcfcmennjaa
