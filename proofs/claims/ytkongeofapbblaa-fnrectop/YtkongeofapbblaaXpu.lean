/-
  The program's RecRun: it answers as the model's; what was passed is a list of its own.
-/
import Derived.Test.YtkongeofapbblaaXpw
import Derived.Test.YtkongeofapbblaaXpx
import Derived.Test.YtkongeofapbblaaM29
import Derived.Maps.OwnIn
import Derived.Maps.AppendAt
namespace Go.Proofs.Ytkongeofapbblaa
open Go.RowKit Go.Shelf

attribute [local go_sem] Oper.semAt_some

set_option maxRecDepth 100000 in
set_option maxHeartbeats 16000000 in
theorem runI_any (S S2 : Nat → Prop) (r : List DRecPhase) (L : List DRecSay) (v vs : Value) (w : World) (h : AtL S w r v) (hL : AtL S2 w L vs) (hS : ∀ b, S b → b < w.heap.size) (hS2 : ∀ b, S2 b → b < w.heap.size) (ht : totL r ≤ 1048576) (hl : L.length ≤ 1048576) :
    Calls Try.prog 5 #[v, vs] w fun e w' => ∃ q, e = .returned (.tuple #[.agg #[.string (runS r L).1.1, .int .i64 (runS r L).1.2.1, .int .i64 (runS r L).1.2.2], q]) ∧ OnL (fun b => w.heap.size ≤ b ∧ b < w'.heap.size) w' (runS r L).2 q ∧ Below w.heap.size w w' := by
  have H : Hid (∀ u, Below w.heap.size w u → AtL S u r v) := fun u hu => h.same (Same.of_below hu hS)
  have HL : Hid (∀ u, Below w.heap.size w u → AtL S2 u L vs) := fun u hu => hL.same (Same.of_below hu hS2)
  obtain ⟨oa, cap, ev, _⟩ := id h
  obtain ⟨nl, en⟩ : ∃ nl, r.length = nl := ⟨_, rfl⟩
  rw [en] at ev
  subst ev
  obtain ⟨os, cs, es, _⟩ := id hL
  obtain ⟨ns, en2⟩ : ∃ ns, L.length = ns := ⟨_, rfl⟩
  rw [en2] at es
  subst es
  have HS : Hid _ := hS
  have HS2 : Hid _ := hS2
  clear h hL hS hS2 en en2
  obtain ⟨RR, hRR⟩ : ∃ RR, runS r L = RR := ⟨_, rfl⟩
  rw [hRR]
  have HRR : Hid (runS r L = RR) := hRR
  clear hRR
  obtain ⟨m, hmm⟩ : ∃ m, recB r = true → RunG r L m := by
    by_cases hr : recB r = true
    · obtain ⟨m, hm⟩ := runG_all (rec_iff.1 hr) L
      exact ⟨m, fun _ => hm⟩
    · exact ⟨0, fun h => absurd h hr⟩
  obtain ⟨U, hU⟩ : ∃ u, u = (((((((w.alloc (.cells #[.string ⟨#[]⟩, .int .i64 0, .int .i64 0] 28)).alloc (.cells #[.string ⟨#[]⟩, .int .i64 0, .int .i64 0] 28)).alloc (.cells #[.slice none 0 0] 29)).alloc (.cells #[.slice os ns cs] 24)).alloc (.cells #[.int .i64 0] 3)).alloc (.cells #[.slice oa nl cap] 23)).alloc (.cells #[.func (.func 53) #[] #[.pointer (some ⟨w.heap.size + 1 + 1 + 1 + 1, 0, none⟩), .pointer (some ⟨w.heap.size + 1 + 1 + 1, 0, none⟩)]] 54)) := ⟨_, rfl⟩
  have EU : Hid (U = (((((((w.alloc (.cells #[.string ⟨#[]⟩, .int .i64 0, .int .i64 0] 28)).alloc (.cells #[.string ⟨#[]⟩, .int .i64 0, .int .i64 0] 28)).alloc (.cells #[.slice none 0 0] 29)).alloc (.cells #[.slice os ns cs] 24)).alloc (.cells #[.int .i64 0] 3)).alloc (.cells #[.slice oa nl cap] 23)).alloc (.cells #[.func (.func 53) #[] #[.pointer (some ⟨w.heap.size + 1 + 1 + 1 + 1, 0, none⟩), .pointer (some ⟨w.heap.size + 1 + 1 + 1, 0, none⟩)]] 54))) := hU
  have sU : w.heap.size + 7 ≤ U.heap.size ∧ U.heap.size ≤ w.heap.size + 7 := by rw [hU]; simp
  have BU : Hid (Below w.heap.size w U) := by rw [hU]; exact ((((((((Below.refl _ _).alloc (Nat.le_refl _) _).alloc (by simp) _).alloc (by simp; omega) _).alloc (by simp; omega) _).alloc (by simp; omega) _).alloc (by simp; omega) _).alloc (by simp; omega) _)
  have P0 : Hid (U.heap[w.heap.size]? = some (.cells #[.string ⟨#[]⟩, .int .i64 0, .int .i64 0] 28 (0, 0))) := by rw [hU]; exact alloc_up _ (alloc_up _ (alloc_up _ (alloc_up _ (alloc_up _ (alloc_up _ (alloc_at _ rfl))))))
  have P1 : Hid (U.heap[w.heap.size + 1]? = some (.cells #[.string ⟨#[]⟩, .int .i64 0, .int .i64 0] 28 (0, 0))) := by rw [hU]; exact alloc_up _ (alloc_up _ (alloc_up _ (alloc_up _ (alloc_up _ (alloc_at _ (by simp))))))
  have P2 : Hid (U.heap[w.heap.size + 1 + 1]? = some (.cells #[.slice none 0 0] 29 (0, 0))) := by rw [hU]; exact alloc_up _ (alloc_up _ (alloc_up _ (alloc_up _ (alloc_at _ (by simp)))))
  have P3 : Hid (U.heap[w.heap.size + 1 + 1 + 1]? = some (.cells #[.slice os ns cs] 24 (0, 0))) := by rw [hU]; exact alloc_up _ (alloc_up _ (alloc_up _ (alloc_at _ (by simp))))
  have P4 : Hid (U.heap[w.heap.size + 1 + 1 + 1 + 1]? = some (.cells #[.int .i64 0] 3 (0, 0))) := by rw [hU]; exact alloc_up _ (alloc_up _ (alloc_at _ (by simp)))
  have P5 : Hid (U.heap[w.heap.size + 1 + 1 + 1 + 1 + 1]? = some (.cells #[.slice oa nl cap] 23 (0, 0))) := by rw [hU]; exact alloc_up _ (alloc_at _ (by simp))
  have P6 : Hid (U.heap[w.heap.size + 1 + 1 + 1 + 1 + 1 + 1]? = some (.cells #[.func (.func 53) #[] #[.pointer (some ⟨w.heap.size + 1 + 1 + 1 + 1, 0, none⟩), .pointer (some ⟨w.heap.size + 1 + 1 + 1, 0, none⟩)]] 54 (0, 0))) := by rw [hU]; exact alloc_at _ (by simp)
  clear hU
  refine (callsIn_wide (n := 6)).1 ?_
  refine callsIn_of_wp_marks Try.func5 rfl trivial ?_ rfl
  simp only [Try.ntmps5, List.size_toArray, List.length_cons, List.length_nil, Nat.reduceAdd, Nat.reduceSub, Array.replicate_succ, Array.replicate_zero, List.push_toArray, List.append_toArray, List.nil_append, List.cons_append]
  refine wpIn_wide.2 ?_
  go_wp2_with fail
  refine (sayInTurn_any _ ⟨_, _, _, rfl⟩ _).mono ?_; rintro e w1 ⟨rfl, hw1⟩
  subst hw1
  go_wp2_with fail
  refine (runStates_any _ ⟨_, _, _, rfl⟩ _ _ _).mono ?_; rintro e w2 ⟨rfl, hw2⟩
  simp only [World.size_alloc] at hw2 ⊢
  rw [← EU.out] at hw2
  subst hw2
  go_wp2_with fail
  refine (wpIn_wide (n := 5)).1 ?_
  refine wpIn_range_it (F := Fence.wide) rfl (by omega) (gf := 52) (lb := #[.pointer (some ⟨w.heap.size + 1 + 1 + 1 + 1 + 1, 0, none⟩), .pointer (some ⟨w.heap.size + 1 + 1 + 1 + 1 + 1 + 1, 0, none⟩)]) rfl trivial (enters_of Try.func52 (by kernel_rfl) rfl)
    (it_any 4 (w.heap.size + 1 + 1 + 1 + 1 + 1) (w.heap.size + 1 + 1 + 1 + 1 + 1 + 1) (w.heap.size + 1 + 1 + 1 + 1) (w.heap.size + 1 + 1 + 1) w.heap.size m (by omega) S S2 r L (.slice oa nl cap) (.slice os ns cs) (ownU (w.heap.size + 1) (w.heap.size + 1 + 1)) w2 P5.out P6.out P3.out P4.out (H.out _ BU.out) (HL.out _ BU.out) HS.out HS2.out BU.out.size (by omega) ⟨by omega, by omega, by omega⟩ ht hl hmm) (Below.refl _ _) (fun _ => rfl) ?no BU.out.size (fun q hq => by omega)
    (fun k X => k ≤ m ∧ ∃ pv x0 x1 x2, (k = 0 → x0 = .string ⟨#[]⟩ ∧ x1 = .int .i64 0 ∧ x2 = .int .i64 0) ∧ RuI w2 (w.heap.size + 1) (w.heap.size + 1 + 1) (w.heap.size + 1 + 1 + 1 + 1) (paG r L k) X pv #[x0, x1, x2])
    (fun c k X => c = .exit 0 ∧ k = m ∧ recB r = true ∧ ∃ pv, RuI w2 (w.heap.size + 1) (w.heap.size + 1 + 1) (w.heap.size + 1 + 1 + 1 + 1) (paG r L m) X pv #[.string (stG r L m).1, .int .i64 (stG r L m).2.1, .int .i64 (stG r L m).2.2])
    (fun k A C hA hb => by obtain ⟨h1, pv, x0, x1, x2, h2, h3⟩ := hA; exact ⟨h1, pv, x0, x1, x2, h2, h3.butR (by omega) (by omega) (by omega) ⟨by omega, by omega⟩ hb⟩)
    (fun c k A C hA hb => by obtain ⟨h1, h2, h4, pv, h3⟩ := hA; exact ⟨h1, h2, h4, pv, h3.butR (by omega) (by omega) (by omega) ⟨by omega, by omega⟩ hb⟩)
    (fun k A hA => by obtain ⟨h1, pv, x0, x1, x2, h2, h3⟩ := hA; exact h3.st (by omega) (by omega) (by omega) ⟨by omega, by omega⟩)
    ⟨Nat.zero_le _, _, _, _, _, fun _ => ⟨rfl, rfl, rfl⟩, ⟨⟨by simp [enc, paG], .inl ⟨rfl, by simp [paG]⟩⟩, P2.out, P1.out, But.refl _ _⟩⟩
    (fun k A hA => by have := hA.1; omega) ?round ?done ?stop
  case no =>
    rintro q hq (e | e | ⟨pv, hpv, ho⟩)
    · omega
    · omega
    · rw [P2.out] at hpv; cases hpv; cases ho
  case round =>
    intro l k X hI hr
    have hm := hmm hr
    obtain ⟨⟨x, now, lf⟩, hs0⟩ : ∃ s, stG r L k = s := ⟨_, rfl⟩
    have HS0 : Hid (stG r L k = (x, now, lf)) := hs0
    have hv : stV r L k = #[.agg #[.string x, .int .i64 now, .int .i64 lf]] := by unfold stV; rw [hs0]
    rw [hv]
    have hsX : w2.heap.size ≤ X.heap.size := by obtain ⟨_, pv, x0, x1, x2, _, h3⟩ := hI; exact h3.but.size
    clear hv hs0 hI
    apply Exists.intro
    apply Exists.intro
    refine ⟨?ba, ?assign, ?body⟩
    case assign =>
      intro K hK
      gi_wp2
      exact hK
    case ba => exact (Below.refl _ _).alloc (Nat.le_refl _) _
    case body =>
      intro V hV hput
      obtain ⟨hkm, pv, x0, x1, x2, hz0, gV⟩ := hV
      obtain ⟨kk, oo, oo', hk1, hk2, hV2⟩ := hput
      have hne : kk ≠ X.heap.size := fun e => by
        subst e
        rw [heap_alloc_new] at hk1
        cases hk1; cases hk2
      have XP : V.heap[X.heap.size]? = some (.cells #[.string x, .int .i64 now, .int .i64 lf] 28 (0, 0)) := by rw [hV2]; exact (World.putObj_heap_other (by omega)).trans (heap_alloc_new X _)
      have hXU : w2.heap.size ≤ X.heap.size := hsX
      clear hV2 hk1 hk2 hne hz0
      obtain ⟨ov, kv, rfl⟩ := Row.form gV.row
      have hln : (paG r L k).length = k := paG_len r L k
      rw [hln] at gV
      have GV : Hid (RuI w2 (w.heap.size + 1) (w.heap.size + 1 + 1) (w.heap.size + 1 + 1 + 1 + 1) (paG r L k) V (.slice ov k kv) #[x0, x1, x2]) := gV
      obtain ⟨z0, _⟩ := cell_row XP 0 (.string x) rfl
      obtain ⟨z1, _⟩ := cell_row XP 1 (.int .i64 now) rfl
      obtain ⟨z2, _⟩ := cell_row XP 2 (.int .i64 lf) rfl
      obtain ⟨y0, y0f⟩ := cell_row gV.b6 0 x0 rfl
      obtain ⟨y1, y1f⟩ := cell_row gV.b6 1 x1 rfl
      obtain ⟨y2, y2f⟩ := cell_row gV.b6 2 x2 rfl
      obtain ⟨ko1, kp1, g1⟩ := gV.set6 (n₀ := w.heap.size) rfl (by omega) (by omega) (by omega) (.string x) (.int .i64 now) (.int .i64 lf)
      have hXV : X.heap.size < V.heap.size := (Array.getElem?_eq_some_iff.1 XP).1
      have XP1 : (((V.setCell ⟨w.heap.size + 1, 0, none⟩ (.string x)).setCell ⟨w.heap.size + 1, 1, none⟩ (.int .i64 now)).setCell ⟨w.heap.size + 1, 2, none⟩ (.int .i64 lf)).heap[X.heap.size]? = some (.cells #[.string x, .int .i64 now, .int .i64 lf] 28 (0, 0)) := (Below.heap_setCell _ ⟨w.heap.size + 1, 2, none⟩ _ _ (by show X.heap.size ≠ w.heap.size + 1; omega)).trans ((Below.heap_setCell _ ⟨w.heap.size + 1, 1, none⟩ _ _ (by show X.heap.size ≠ w.heap.size + 1; omega)).trans ((Below.heap_setCell _ ⟨w.heap.size + 1, 0, none⟩ _ _ (by show X.heap.size ≠ w.heap.size + 1; omega)).trans XP))
      have KO1 : Hid _ := ko1
      have KP1 : Hid _ := kp1
      have G1 : Hid _ := g1
      have X1P : Hid _ := XP1
      clear ko1 kp1 g1 XP1 gV
      gi_upto_region 6 with fail
      clear z0 z1 z2 y0 y1 y2 y0f y1f y2f
      generalize ((V.setCell ⟨w.heap.size + 1, 0, none⟩ (.string x)).setCell ⟨w.heap.size + 1, 1, none⟩ (.int .i64 now)).setCell ⟨w.heap.size + 1, 2, none⟩ (.int .i64 lf) = V1 at KO1 KP1 G1 X1P ⊢
      have z0 := (cell_row X1P.out 0 (.string x) rfl).1
      have EN : Hid (Calls Try.prog 9 #[.string x] V1 fun e w' => e = .returned (.int .i64 (endI x)) ∧ w' = V1) := endP_any x V1
      obtain ⟨E, hE⟩ : ∃ E, E = endI x := ⟨_, rfl⟩
      rw [← hE] at EN
      by_cases hk : k < m
      · have hE0 : E = 0 := by have := hm.mid k hk; rw [HS0.out] at this; rw [hE]; exact this
        subst hE0
        clear hE
        gi_upto_region 7 with (refine ⟨trivial, ?_⟩; gi_at_call 9; refine (CallsIn.inRound l (callsIn_wide.2 EN.out)).mono ?_; rintro e w' ⟨rfl, hw'⟩; have h2 := hw'.symm; subst h2)
        have z7 := (cell_row G1.out.b7 0 (.slice ov k kv) rfl).1
        have hn1 := hm.le
        obtain ⟨i0, zz, hi, hz0, hz1, hz2, hz3⟩ := elS.info
        have OWN : Hid ((V1.alloc (.cells #[.string x] 9)).ownsRow w2.heap.size 9 1 (.slice ov k kv) k (enc 1 eS (paG r L k))) := by
          have := Row.below G1.out.row ((Below.refl _ _).alloc (Nat.le_refl _) (.cells #[.string x] 9))
          rw [Row, hln] at this
          exact this
        have sV1 := G1.out.but.size
        gi_wp2_with (gi_at_builtin; refine wpListIn_append_own_at _ rfl _ _ 29 rfl w2.heap.size 9 i0 zz 1 16 elS.ht hi hz0 hz1 hz2 hz3 (by decide) _ _ _ rfl OWN.out ⟨V1.heap.size, 0, none⟩ 1 1 [.string x] rfl rfl (cell_one_new _ _ _) (by simp [Value.oneCell']) (by unfold maxLen; omega) (by omega) (by simp; omega) ?_; intro v' u8 hown hgr _ hbk; have ROW : Row u8 w2.heap.size 9 1 eS v' (paG r L (k + 1)) := (by show World.ownsRow _ _ _ _ _ _ _; rw [paG_len, paG_succ, enc_append, HS0.out]; exact hown); obtain ⟨ov', kv', hv'⟩ := Row.form ROW; rw [paG_len] at hv'; subst hv'; have hg8 : u8.heap[w.heap.size + 1 + 1]? = some (.cells #[.slice ov k kv] 29 (0, 0)) := (hgr.block _ (by simp; omega) (fun e => by have := (G1.out.lt e.symm).1; omega)).trans ((Below.heap_alloc _ _ _ (by omega)).trans G1.out.b7); have ROWH : Hid (Row u8 w2.heap.size 9 1 eS (.slice ov' (k + 1) kv') (paG r L (k + 1))) := ROW; have HGR : Hid _ := hgr; have HBK : Hid (_ ∨ _) := hbk; clear ROW hgr hbk hown; obtain ⟨p7, f7⟩ := cell_row hg8 0 _ rfl)
        obtain ⟨ko2, kp2, g2⟩ := G1.out.push (n₀ := w.heap.size) (by omega) (by omega) (by omega) (by omega) ((Below.refl _ _).alloc (Nat.le_refl _) (.cells #[.string x] 9)) HGR.out ROWH.out HBK.out
        exact ⟨KO1.out.trans ko2, KP1.out.trans kp2, by omega, _, .string x, .int .i64 now, .int .i64 lf, fun h => by omega, g2⟩
      · obtain rfl : k = m := by omega
        have hE1 : (E == 0) = false := by have := hm.fin; rw [HS0.out] at this; rw [hE]; simpa using this
        clear hE
        gi_wp2_with (refine ⟨trivial, ?_⟩; gi_at_call 9; refine (CallsIn.inRound l (callsIn_wide.2 EN.out)).mono ?_; rintro e w' ⟨rfl, hw'⟩; have h2 := hw'.symm; subst h2)
        exact ⟨KO1.out, rfl, rfl, hr, .slice ov k kv, by rw [HS0.out]; exact G1.out⟩
  case done =>
    rintro D k Z hD hDZ ⟨hr, rfl⟩ hI hK
    obtain ⟨_, pv, x0, x1, x2, hz, hI⟩ := hI
    obtain ⟨rfl, rfl, rfl⟩ := hz rfl
    obtain rfl : ((⟨#[]⟩, 0, 0), paG r L 0) = RR := by rw [← HRR.out]; simp [runS, begS, hr, paG]
    have B6 : Hid (Z.heap[w.heap.size + 1]? = some (.cells #[.string ⟨#[]⟩, .int .i64 0, .int .i64 0] 28 (0, 0))) := hI.b6
    have sZ := hI.but.size
    obtain ⟨op, kp, rfl⟩ := Row.form hI.row
    have B7 : Hid (Z.heap[w.heap.size + 1 + 1]? = some (.cells #[.slice op (paG r L 0).length kp] 29 (0, 0))) := hI.b7
    have RW : Hid (Row Z w2.heap.size 9 1 eS (.slice op (paG r L 0).length kp) (paG r L 0)) := hI.row
    have Z4 : Hid (Z.heap[w.heap.size]? = some (.cells #[.string ⟨#[]⟩, .int .i64 0, .int .i64 0] 28 (0, 0))) := (hI.but.block w.heap.size (by omega) (by omega)).trans P0.out
    have BZ : Hid (Below w.heap.size w Z) := BU.out.trans (hI.but.below (B := w.heap.size) (fun b hb => by omega) (by omega))
    have KD : Hid (Z.heap[D]? = some (.deferred (some []))) := hK
    obtain ⟨ln, eln⟩ : ∃ ln, (paG r L 0).length = ln := ⟨_, rfl⟩
    have ELN : Hid ((paG r L 0).length = ln) := eln
    rw [eln] at B7 RW
    clear eln hK hI
    go_upto_region 8 with fail
    have hC0 : (fun u : World => u.heap[w.heap.size + 1]? = some (.cells #[.string ⟨#[]⟩, .int .i64 0, .int .i64 0] 28 (0, 0)) ∧ u.heap[w.heap.size + 1 + 1]? = some (.cells #[.slice op ln kp] 29 (0, 0))) Z.drew := ⟨B6.out, B7.out⟩
    refine wp_region_all (fun u : World => u.heap[w.heap.size + 1]? = some (.cells #[.string ⟨#[]⟩, .int .i64 0, .int .i64 0] 28 (0, 0)) ∧ u.heap[w.heap.size + 1 + 1]? = some (.cells #[.slice op ln kp] 29 (0, 0))) (by kernel_rfl) ?_
    generalize hZd : Z.drew = Zd at hC0 ⊢
    have hzz : ∀ q : Nat, Zd.heap[q]? = Z.heap[q]? := fun q => by rw [← hZd]; rfl
    have bzd : Below w.heap.size w Zd := by rw [← hZd]; exact BZ.out.drew
    have zsz : Zd.heap.size = Z.heap.size := by rw [← hZd]; rfl
    clear hZd
    refine takeA (f := 3) (i := 0) (.agg #[.string ⟨#[]⟩, .int .i64 0, .int .i64 0]) ⟨rfl, rfl⟩ (by kernel_rfl) rfl hC0 ?q0 ?_
    case q0 => intro u hu; have k0 := (cell_row hu.1 0 (.string ⟨#[]⟩) rfl).1; have k1 := (cell_row hu.1 1 (.int .i64 0) rfl).1; have k2 := (cell_row hu.1 2 (.int .i64 0) rfl).1; go_simp
    simp only [Act.put, List.setIfInBounds_toArray, List.set_cons_zero, List.set_cons_succ]
    refine takeA (f := 2) (i := 1) (.slice op ln kp) ⟨rfl, rfl⟩ (by kernel_rfl) rfl hC0 ?q1 ?_
    case q1 => intro u hu; have k0 := (cell_row hu.2 0 (.slice op ln kp) rfl).1; go_simp
    simp only [Act.put, List.setIfInBounds_toArray, List.set_cons_zero, List.set_cons_succ]
    have Z4d : Zd.heap[w.heap.size]? = some (.cells #[.string ⟨#[]⟩, .int .i64 0, .int .i64 0] 28 (0, 0)) := (hzz _).trans Z4.out
    obtain ⟨e0, f0⟩ := cell_row Z4d 0 _ rfl
    obtain ⟨e1, f1⟩ := cell_row Z4d 1 _ rfl
    obtain ⟨e2, f2⟩ := cell_row Z4d 2 _ rfl
    have fin := set_row (set_row (set_row Z4d 0 (.string ⟨#[]⟩)) 1 (.int .i64 0)) 2 (.int .i64 0)
    have oth : ∀ b, b ≠ w.heap.size → (((Zd.setCell ⟨w.heap.size, 0, none⟩ (.string ⟨#[]⟩)).setCell ⟨w.heap.size, 1, none⟩ (.int .i64 0)).setCell ⟨w.heap.size, 2, none⟩ (.int .i64 0)).heap[b]? = Z.heap[b]? := fun b hb => ((Below.heap_setCell _ _ _ _ hb).trans ((Below.heap_setCell _ _ _ _ hb).trans (Below.heap_setCell _ _ _ _ hb))).trans (hzz b)
    have bF : Below w.heap.size w (((Zd.setCell ⟨w.heap.size, 0, none⟩ (.string ⟨#[]⟩)).setCell ⟨w.heap.size, 1, none⟩ (.int .i64 0)).setCell ⟨w.heap.size, 2, none⟩ (.int .i64 0)) := ((bzd.setCell (p := ⟨w.heap.size, 0, none⟩) (Nat.le_refl _) _).setCell (p := ⟨w.heap.size, 1, none⟩) (Nat.le_refl _) _).setCell (p := ⟨w.heap.size, 2, none⟩) (Nat.le_refl _) _
    have hC1 : (fun u : World => u.heap[w.heap.size + 1]? = some (.cells #[.string ⟨#[]⟩, .int .i64 0, .int .i64 0] 28 (0, 0)) ∧ u.heap[w.heap.size + 1 + 1]? = some (.cells #[.slice op ln kp] 29 (0, 0))) (((Zd.setCell ⟨w.heap.size, 0, none⟩ (.string ⟨#[]⟩)).setCell ⟨w.heap.size, 1, none⟩ (.int .i64 0)).setCell ⟨w.heap.size, 2, none⟩ (.int .i64 0)) := ⟨(oth _ (by omega)).trans B6.out, (oth _ (by omega)).trans B7.out⟩
    refine storeHd (f := 1) (i := 2) (((Zd.setCell ⟨w.heap.size, 0, none⟩ (.string ⟨#[]⟩)).setCell ⟨w.heap.size, 1, none⟩ (.int .i64 0)).setCell ⟨w.heap.size, 2, none⟩ (.int .i64 0)) ⟨rfl, rfl⟩ (by decide) (by kernel_rfl) rfl ?q2 hC1 ?_
    case q2 => go_simp
    have zF : (((Zd.setCell ⟨w.heap.size, 0, none⟩ (.string ⟨#[]⟩)).setCell ⟨w.heap.size, 1, none⟩ (.int .i64 0)).setCell ⟨w.heap.size, 2, none⟩ (.int .i64 0)).heap.size = Z.heap.size := by rw [← zsz]; simp
    clear e0 e1 e2 f0 f1 f2 Z4d
    generalize ((Zd.setCell ⟨w.heap.size, 0, none⟩ (.string ⟨#[]⟩)).setCell ⟨w.heap.size, 1, none⟩ (.int .i64 0)).setCell ⟨w.heap.size, 2, none⟩ (.int .i64 0) = FW at fin oth bF hC1 zF ⊢
    refine takeA (f := 0) (i := 3) (.slice op ln kp) ⟨rfl, rfl⟩ (by kernel_rfl) rfl hC1 ?q3 ?_
    case q3 => intro u hu; go_simp
    simp only [Act.put, List.setIfInBounds_toArray, List.set_cons_zero, List.set_cons_succ]
    refine ⟨by kernel_rfl, ?_⟩
    have HF : Hid _ := fin
    have HO : Hid _ := oth
    have HB : Hid _ := bF
    have HZ : Hid (FW.heap.size ≤ Z.heap.size ∧ Z.heap.size ≤ FW.heap.size) := ⟨Nat.le_of_eq zF, Nat.le_of_eq zF.symm⟩
    clear fin oth bF hC1 hC0 zF hzz bzd zsz
    go_wp2_with fail
    have T1 : FW.heap[D]? = some (.deferred (some [])) := (HO.out D (by omega)).trans KD.out
    refine ⟨by simp, .inl ⟨_, _, rfl, run_takeDeferred T1, ?_⟩⟩
    obtain ⟨FF, hFF⟩ : ∃ u, u = FW.putObj D (.deferred none) := ⟨_, rfl⟩
    rw [← hFF]
    have same : ∀ g, g ≠ D → FF.heap[g]? = FW.heap[g]? := fun g h1 => by rw [hFF]; exact World.putObj_heap_other (by omega)
    have sFF : FF.heap.size = FW.heap.size := by rw [hFF]; simp
    have F0' := (same w.heap.size (by omega)).trans HF.out
    have s0 := (cell_row F0' 0 (.string ⟨#[]⟩) rfl).1
    have s1 := (cell_row F0' 1 (.int .i64 0) rfl).1
    have s2 := (cell_row F0' 2 (.int .i64 0) rfl).1
    have h1 := HB.out
    have BFF : Below w.heap.size w FF := by
      refine ⟨?_, ?_, ?_, by rw [sFF]; exact h1.size, fun b hb => (same b (by omega)).trans (h1.block b hb)⟩
      · rw [hFF]; exact h1.os
      · rw [hFF]; exact h1.tape
      · rw [hFF]; exact h1.output
    have rF : Row FF w2.heap.size 9 1 eS (.slice op ln kp) (paG r L 0) := Row.block RW.out (fun q hq => by
      obtain ⟨cur, hcur⟩ := rowU_cells RW.out hq
      have hl := World.ownsRow.lt RW.out q hq
      refine (same q (fun e => ?_)).trans (HO.out q (by omega))
      subst e
      have := KD.out
      rw [hcur] at this; cases this)
    have hz := HZ.out
    exact ⟨.tuple #[.agg #[.string ⟨#[]⟩, .int .i64 0, .int .i64 0], .slice op ln kp], (by simp [results, Try.results5, go_sem, s0, s1, s2]), _, rfl, onS rF (fun g hg => by have := World.ownsRow.lt RW.out g hg; omega) (fun y hy => by simp [paG] at hy), BFF⟩
  case stop =>
    rintro D c k Z hD hDZ ⟨rfl, rfl, hr, pv, hI⟩ hK
    refine wpIn_wide.2 ?_
    have hm := hmm hr
    obtain rfl : (stG r L k, paG r L k) = RR := by rw [← HRR.out]; exact hm.run.symm
    have B6 : Hid (Z.heap[w.heap.size + 1]? = some (.cells #[.string (stG r L k).1, .int .i64 (stG r L k).2.1, .int .i64 (stG r L k).2.2] 28 (0, 0))) := hI.b6
    have sZ := hI.but.size
    obtain ⟨op, kp, rfl⟩ := Row.form hI.row
    have B7 : Hid (Z.heap[w.heap.size + 1 + 1]? = some (.cells #[.slice op (paG r L k).length kp] 29 (0, 0))) := hI.b7
    have RW : Hid (Row Z w2.heap.size 9 1 eS (.slice op (paG r L k).length kp) (paG r L k)) := hI.row
    have Z4 : Hid (Z.heap[w.heap.size]? = some (.cells #[.string ⟨#[]⟩, .int .i64 0, .int .i64 0] 28 (0, 0))) := (hI.but.block w.heap.size (by omega) (by omega)).trans P0.out
    have BZ : Hid (Below w.heap.size w Z) := BU.out.trans (hI.but.below (B := w.heap.size) (fun b hb => by omega) (by omega))
    have KD : Hid (Z.heap[D]? = some (.deferred (some []))) := hK
    obtain ⟨ln, eln⟩ : ∃ ln, (paG r L k).length = ln := ⟨_, rfl⟩
    have ELN : Hid ((paG r L k).length = ln) := eln
    rw [eln] at B7 RW
    clear eln hK hI
    go_upto_region 8 with fail
    have hC0 : (fun u : World => u.heap[w.heap.size + 1]? = some (.cells #[.string (stG r L k).1, .int .i64 (stG r L k).2.1, .int .i64 (stG r L k).2.2] 28 (0, 0)) ∧ u.heap[w.heap.size + 1 + 1]? = some (.cells #[.slice op ln kp] 29 (0, 0))) Z.drew := ⟨B6.out, B7.out⟩
    refine wp_region_all (fun u : World => u.heap[w.heap.size + 1]? = some (.cells #[.string (stG r L k).1, .int .i64 (stG r L k).2.1, .int .i64 (stG r L k).2.2] 28 (0, 0)) ∧ u.heap[w.heap.size + 1 + 1]? = some (.cells #[.slice op ln kp] 29 (0, 0))) (by kernel_rfl) ?_
    generalize hZd : Z.drew = Zd at hC0 ⊢
    have hzz : ∀ q : Nat, Zd.heap[q]? = Z.heap[q]? := fun q => by rw [← hZd]; rfl
    have bzd : Below w.heap.size w Zd := by rw [← hZd]; exact BZ.out.drew
    have zsz : Zd.heap.size = Z.heap.size := by rw [← hZd]; rfl
    clear hZd
    refine takeA (f := 3) (i := 0) (.agg #[.string (stG r L k).1, .int .i64 (stG r L k).2.1, .int .i64 (stG r L k).2.2]) ⟨rfl, rfl⟩ (by kernel_rfl) rfl hC0 ?q0 ?_
    case q0 => intro u hu; have k0 := (cell_row hu.1 0 (.string (stG r L k).1) rfl).1; have k1 := (cell_row hu.1 1 (.int .i64 (stG r L k).2.1) rfl).1; have k2 := (cell_row hu.1 2 (.int .i64 (stG r L k).2.2) rfl).1; go_simp
    simp only [Act.put, List.setIfInBounds_toArray, List.set_cons_zero, List.set_cons_succ]
    refine takeA (f := 2) (i := 1) (.slice op ln kp) ⟨rfl, rfl⟩ (by kernel_rfl) rfl hC0 ?q1 ?_
    case q1 => intro u hu; have k0 := (cell_row hu.2 0 (.slice op ln kp) rfl).1; go_simp
    simp only [Act.put, List.setIfInBounds_toArray, List.set_cons_zero, List.set_cons_succ]
    have Z4d : Zd.heap[w.heap.size]? = some (.cells #[.string ⟨#[]⟩, .int .i64 0, .int .i64 0] 28 (0, 0)) := (hzz _).trans Z4.out
    obtain ⟨e0, f0⟩ := cell_row Z4d 0 _ rfl
    obtain ⟨e1, f1⟩ := cell_row Z4d 1 _ rfl
    obtain ⟨e2, f2⟩ := cell_row Z4d 2 _ rfl
    have fin := set_row (set_row (set_row Z4d 0 (.string (stG r L k).1)) 1 (.int .i64 (stG r L k).2.1)) 2 (.int .i64 (stG r L k).2.2)
    have oth : ∀ b, b ≠ w.heap.size → (((Zd.setCell ⟨w.heap.size, 0, none⟩ (.string (stG r L k).1)).setCell ⟨w.heap.size, 1, none⟩ (.int .i64 (stG r L k).2.1)).setCell ⟨w.heap.size, 2, none⟩ (.int .i64 (stG r L k).2.2)).heap[b]? = Z.heap[b]? := fun b hb => ((Below.heap_setCell _ _ _ _ hb).trans ((Below.heap_setCell _ _ _ _ hb).trans (Below.heap_setCell _ _ _ _ hb))).trans (hzz b)
    have bF : Below w.heap.size w (((Zd.setCell ⟨w.heap.size, 0, none⟩ (.string (stG r L k).1)).setCell ⟨w.heap.size, 1, none⟩ (.int .i64 (stG r L k).2.1)).setCell ⟨w.heap.size, 2, none⟩ (.int .i64 (stG r L k).2.2)) := ((bzd.setCell (p := ⟨w.heap.size, 0, none⟩) (Nat.le_refl _) _).setCell (p := ⟨w.heap.size, 1, none⟩) (Nat.le_refl _) _).setCell (p := ⟨w.heap.size, 2, none⟩) (Nat.le_refl _) _
    have hC1 : (fun u : World => u.heap[w.heap.size + 1]? = some (.cells #[.string (stG r L k).1, .int .i64 (stG r L k).2.1, .int .i64 (stG r L k).2.2] 28 (0, 0)) ∧ u.heap[w.heap.size + 1 + 1]? = some (.cells #[.slice op ln kp] 29 (0, 0))) (((Zd.setCell ⟨w.heap.size, 0, none⟩ (.string (stG r L k).1)).setCell ⟨w.heap.size, 1, none⟩ (.int .i64 (stG r L k).2.1)).setCell ⟨w.heap.size, 2, none⟩ (.int .i64 (stG r L k).2.2)) := ⟨(oth _ (by omega)).trans B6.out, (oth _ (by omega)).trans B7.out⟩
    refine storeHd (f := 1) (i := 2) (((Zd.setCell ⟨w.heap.size, 0, none⟩ (.string (stG r L k).1)).setCell ⟨w.heap.size, 1, none⟩ (.int .i64 (stG r L k).2.1)).setCell ⟨w.heap.size, 2, none⟩ (.int .i64 (stG r L k).2.2)) ⟨rfl, rfl⟩ (by decide) (by kernel_rfl) rfl ?q2 hC1 ?_
    case q2 => go_simp
    have zF : (((Zd.setCell ⟨w.heap.size, 0, none⟩ (.string (stG r L k).1)).setCell ⟨w.heap.size, 1, none⟩ (.int .i64 (stG r L k).2.1)).setCell ⟨w.heap.size, 2, none⟩ (.int .i64 (stG r L k).2.2)).heap.size = Z.heap.size := by rw [← zsz]; simp
    clear e0 e1 e2 f0 f1 f2 Z4d
    generalize ((Zd.setCell ⟨w.heap.size, 0, none⟩ (.string (stG r L k).1)).setCell ⟨w.heap.size, 1, none⟩ (.int .i64 (stG r L k).2.1)).setCell ⟨w.heap.size, 2, none⟩ (.int .i64 (stG r L k).2.2) = FW at fin oth bF hC1 zF ⊢
    refine takeA (f := 0) (i := 3) (.slice op ln kp) ⟨rfl, rfl⟩ (by kernel_rfl) rfl hC1 ?q3 ?_
    case q3 => intro u hu; go_simp
    simp only [Act.put, List.setIfInBounds_toArray, List.set_cons_zero, List.set_cons_succ]
    refine ⟨by kernel_rfl, ?_⟩
    have HF : Hid _ := fin
    have HO : Hid _ := oth
    have HB : Hid _ := bF
    have HZ : Hid (FW.heap.size ≤ Z.heap.size ∧ Z.heap.size ≤ FW.heap.size) := ⟨Nat.le_of_eq zF, Nat.le_of_eq zF.symm⟩
    clear fin oth bF hC1 hC0 zF hzz bzd zsz
    go_wp2_with fail
    have T1 : FW.heap[D]? = some (.deferred (some [])) := (HO.out D (by omega)).trans KD.out
    refine ⟨by simp, .inl ⟨_, _, rfl, run_takeDeferred T1, ?_⟩⟩
    obtain ⟨FF, hFF⟩ : ∃ u, u = FW.putObj D (.deferred none) := ⟨_, rfl⟩
    rw [← hFF]
    have same : ∀ g, g ≠ D → FF.heap[g]? = FW.heap[g]? := fun g h1 => by rw [hFF]; exact World.putObj_heap_other (by omega)
    have sFF : FF.heap.size = FW.heap.size := by rw [hFF]; simp
    have F0' := (same w.heap.size (by omega)).trans HF.out
    have s0 := (cell_row F0' 0 (.string (stG r L k).1) rfl).1
    have s1 := (cell_row F0' 1 (.int .i64 (stG r L k).2.1) rfl).1
    have s2 := (cell_row F0' 2 (.int .i64 (stG r L k).2.2) rfl).1
    have h1 := HB.out
    have BFF : Below w.heap.size w FF := by
      refine ⟨?_, ?_, ?_, by rw [sFF]; exact h1.size, fun b hb => (same b (by omega)).trans (h1.block b hb)⟩
      · rw [hFF]; exact h1.os
      · rw [hFF]; exact h1.tape
      · rw [hFF]; exact h1.output
    have rF : Row FF w2.heap.size 9 1 eS (.slice op ln kp) (paG r L k) := Row.block RW.out (fun q hq => by
      obtain ⟨cur, hcur⟩ := rowU_cells RW.out hq
      have hl := World.ownsRow.lt RW.out q hq
      refine (same q (fun e => ?_)).trans (HO.out q (by omega))
      subst e
      have := KD.out
      rw [hcur] at this; cases this)
    have hz := HZ.out
    exact ⟨.tuple #[.agg #[.string (stG r L k).1, .int .i64 (stG r L k).2.1, .int .i64 (stG r L k).2.2], .slice op ln kp], (by simp [results, Try.results5, go_sem, s0, s1, s2]), _, rfl, onS rF (fun g hg => by have := World.ownsRow.lt RW.out g hg; omega) (fun y hy => by
      simp only [paG, List.mem_map, List.mem_range] at hy
      obtain ⟨i, hi, rfl⟩ := hy
      have := (hm.st i (by omega)).sz
      show _ ≤ maxLen
      unfold maxLen; omega), BFF⟩
end Go.Proofs.Ytkongeofapbblaa
