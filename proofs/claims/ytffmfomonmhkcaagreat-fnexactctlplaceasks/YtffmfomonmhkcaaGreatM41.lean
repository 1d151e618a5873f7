/-
  Several texts in one.
-/
import Derived.Test.YtffmfomonmhkcaaGreatM40
import Derived.Test.YtffmfomonmhkcaaGreatM31
import Derived.Test.YtffmfomonmhkcaaGreatM20
import Derived.Deep.Cut
import Derived.Test.YtffmfomonmhkcaaGreatM32
import Derived.Test.YtffmfomonmhkcaaGreatZb
import Derived.Test.YtffmfomonmhkcaaGreatM16
/-
  Contracts of the program's builder of wants: a use, a valve that is opened, a valve that is kept shut.
-/
namespace Go.Proofs.YtffmfomonmhkcaaGreat
open Go.RowKit

attribute [local go_sem] Oper.semAt_some
theorem app_ex {P : Program} {t e : TypeId} {size bytes base n m : Nat} {w : World} {o : Oper} {a : Act} {v sv : Value} {xs news : List Value} {K : Value → World → Prop} (T : ElT P t e size bytes) (s x : Operand) (ho : o.op = .call { callee := .builtin .append, args := #[s, x], argTypes := #[t, t] })
    (hs : a.eval s = v) (hx : a.eval x = sv) (hown : w.ownsRow base e size v n xs) (hsrc : Src w sv m size news) (h1 : ∀ u ∈ news, u.oneCell' = true) (h63 : n + m ≤ maxLen) (hbytes : (n + m) * bytes ≤ 140737488355328) (hbase : base ≤ w.heap.size)
    (hk : ∀ v' w', w'.ownsRow base e size v' (n + m) (xs ++ news) → w.grownBy w' v.ownBlock → (v'.ownBlock = v.ownBlock ∨ v'.ownBlock = some w.heap.size) → K v' w') : ∃ u w', (execOp a.eval o).run P w = .ok (.value u) w' ∧ K u w' := by
  obtain ⟨v', w', hr, h2, h3, h4⟩ := run_app (P := P) T hown hsrc h1 h63 hbytes hbase o.type
  refine ⟨v', w', ?_, hk v' w' h2 h3 h4⟩
  unfold execOp
  simp only [ho, resolve, invoke, builtin, Sem.run_bind, Sem.run_pure, Result.andThen_ok, List.map_toArray, List.map_cons, List.map_nil, hs, hx, hr]
variable {bf : Value → Value → Value → Array Value} {tb : TypeId} {gx n0 : Nat} {u : List DClaimUse} {o s : List ByteArray} {vu vo vs : Value}

set_option maxRecDepth 100000 in
set_option maxHeartbeats 8000000 in
theorem use_any (hbf : BF bf) (x : ByteArray) (r a : Int) (w : World) (h : Bx bf tb gx n0 u o s vu vo vs w) (hn0 : n0 ≤ w.heap.size) (hl : u.length ≤ 1048576) (hx : x.size ≤ 1048576) :
    Calls Tryz.prog 70 #[.pointer (some ⟨gx, 0, none⟩), .string x, .int .i64 r, .int .i64 a] w fun e w' => e = .returned (.tuple #[]) ∧ ∃ v', Bx bf tb gx n0 (u ++ [(x, r, a)]) o s v' vo vs w' ∧ Stp gx tb w w' := by
  have H : Hid (Bx bf tb gx n0 u o s vu vo vs w) := h
  have hgx := h.gxlt
  have HBF : Hid (BF bf) := hbf
  obtain ⟨ov, kv, rfl⟩ := ownsRow_shape h.ru
  clear h
  clear hbf
  obtain ⟨yx, _⟩ := cell_row H.out.box 3 (.slice ov u.length kv) (HBF.out.g3 _ _ _)
  have qx := fun d os => cell_regrown yx d os
  have hdr : Hid (Below w.heap.size w w.drew) := (Below.refl _ _).drew
  go_enter Tryz.func70, Tryz.ntmps70
  refine wp_region_two 13 [0] 12 [1, 2, 3, 4, 5, 6, 8, 9] (by kernel_rfl) (by kernel_rfl) ?_
  simp only [List.filterMap_cons, List.filterMap_nil, List.getElem?_cons_succ, List.getElem?_cons_zero, movD, mvOf, Act.put]
  repeat (first | go_big_quiet_step (fail) | quiet_step (fail))
  refine wpQuiet_nil ?_
  clear yx qx
  refine callHd (f := 2) (i := 7) (d := 15) (fn := 101) ⟨rfl, rfl⟩ (by decide) (by kernel_rfl) rfl ?runc ((clones_any x w.drew hx).mono ?_)
  case runc => go_simp
  rintro e wd ⟨rfl, hb8⟩
  have CV : Hid (Below w.heap.size w wd) := hdr.out.trans (hb8.mono hdr.out.size)
  clear hb8
  have sd := CV.out.size
  refine ⟨_, rfl, regrown_of_below CV.out, ?_⟩
  simp only [Act.put, List.setIfInBounds_toArray, List.set_cons_zero, List.set_cons_succ]
  obtain ⟨ua, hua⟩ : ∃ u, u = wd.alloc (.cells #[.string x, .int .i64 r, .int .i64 a] 54) := ⟨_, rfl⟩
  have HUA : Hid (ua = wd.alloc (.cells #[.string x, .int .i64 r, .int .i64 a] 54)) := hua
  have BA : Hid (Below w.heap.size w ua) := by rw [hua]; exact CV.out.alloc CV.out.size _
  have sua : wd.heap.size + 1 ≤ ua.heap.size ∧ ua.heap.size ≤ wd.heap.size + 1 := by rw [hua]; simp
  have HSRC : Hid (Src ua (.slice (some ⟨wd.heap.size, 0, none⟩) 1 1) 1 3 (#[.string x, .int .i64 r, .int .i64 a] : Array Value).toList) := by
    have h1 : ua.ownsRow 0 54 3 (.slice (some ⟨wd.heap.size, 0, none⟩) 1 1) 1 (#[.string x, .int .i64 r, .int .i64 a] : Array Value).toList := by
      rw [hua]; exact own_built (Nat.zero_le _) (by unfold maxLen; omega) rfl
    exact own_src h1
  have HOWN : Hid (ua.ownsRow n0 54 3 (.slice ov u.length kv) u.length (enc 3 eU u)) := row_stable BA.out H.out.ru
  clear hua
  have HONE : Hid (∀ z ∈ (#[.string x, .int .i64 r, .int .i64 a] : Array Value).toList, z.oneCell' = true) := by intro z hz; simp at hz; rcases hz with rfl | rfl | rfl <;> rfl
  refine oneHd (f := 1) (i := 10) (d := 18) (.agg #[.string x, .int .i64 r, .int .i64 a]) wd ⟨rfl, rfl⟩ (by decide) (by kernel_rfl) rfl ?runa (regrown_of_below CV.out) ?_
  case runa => go_simp
  simp only [Act.put, List.setIfInBounds_toArray, List.set_cons_zero, List.set_cons_succ]
  refine oneHd (f := 0) (i := 11) (d := 19) (.slice (some ⟨wd.heap.size, 0, none⟩) 1 1) (wd.alloc (.cells #[.string x, .int .i64 r, .int .i64 a] 54)) ⟨rfl, rfl⟩ (by decide) (by kernel_rfl) rfl ?runb (regrown_of_below (CV.out.alloc CV.out.size _)) ?_
  case runb => go_simp
  simp only [Act.put, List.setIfInBounds_toArray, List.set_cons_zero, List.set_cons_succ]
  rw [← HUA.out]
  refine rest_of [12] (by kernel_rfl) (by decide) ?_
  refine oneX (f := 0) (i := 12) ⟨rfl, by decide⟩ (by kernel_rfl) rfl ?_
  refine app_ex (n := u.length) (m := 1) (v := .slice ov u.length kv) elU (.tmp 13) (.tmp 19) rfl rfl rfl HOWN.out HSRC.out HONE.out (by unfold maxLen; omega) (by omega) (by omega) ?_
  intro v' u8 hown hgr hbk
  obtain ⟨ov', kv', rfl⟩ := ownsRow_shape hown
  have hg8 : u8.heap[gx]? = some (.cells (bf (.slice ov u.length kv) vo vs) tb (0, 0)) := (hgr.block gx (by omega) (fun e => by have := (World.ownsRow.lt HOWN.out gx e.symm).1; have := H.out.lo; omega)).trans ((BA.out.block gx (by omega)).trans H.out.box)
  obtain ⟨zc8, zf8⟩ := cell_row hg8 3 (.slice ov u.length kv) (HBF.out.g3 _ _ _)
  refine ⟨trivial, ?_⟩
  refine ⟨by kernel_rfl, ?_⟩
  simp only [List.drop_succ_cons, List.drop_zero, Act.put, List.setIfInBounds_toArray]
  obtain ⟨gB, gS⟩ := H.out.step3 HBF.out BA.out hgr hbk (u' := u ++ [(x, r, a)]) (by rw [List.length_append, enc_append]; exact hown)
  go_wp2_with fail
  go_end0
  exact ⟨rfl, ⟨_, gB⟩, gS⟩

set_option maxRecDepth 100000 in
set_option maxHeartbeats 8000000 in
theorem open_any (hbf : BF bf) (x : ByteArray) (w : World) (h : Bx bf tb gx n0 u o s vu vo vs w) (hn0 : n0 ≤ w.heap.size) (hl : o.length ≤ 1048576) (hx : x.size ≤ 1048576) :
    Calls Tryz.prog 100 #[.pointer (some ⟨gx, 0, none⟩), .string x] w fun e w' => e = .returned (.tuple #[]) ∧ ∃ v', Bx bf tb gx n0 u (o ++ [x]) s vu v' vs w' ∧ Stp gx tb w w' := by
  have H : Hid (Bx bf tb gx n0 u o s vu vo vs w) := h
  have hgx := h.gxlt
  have HBF : Hid (BF bf) := hbf
  obtain ⟨ov, kv, rfl⟩ := ownsRow_shape h.ro
  clear h
  clear hbf
  obtain ⟨yx, _⟩ := cell_row H.out.box 4 (.slice ov o.length kv) (HBF.out.g4 _ _ _)
  have qx := fun d os => cell_regrown yx d os
  have hdr : Hid (Below w.heap.size w w.drew) := (Below.refl _ _).drew
  go_enter Tryz.func100, Tryz.ntmps100
  refine wp_region_two 10 [0] 9 [1, 2, 3, 4, 5, 6] (by kernel_rfl) (by kernel_rfl) ?_
  simp only [List.filterMap_cons, List.filterMap_nil, List.getElem?_cons_succ, List.getElem?_cons_zero, movD, mvOf, Act.put]
  repeat (first | go_big_quiet_step (fail) | quiet_step (fail))
  refine wpQuiet_nil ?_
  clear yx qx
  refine callHd (f := 1) (i := 7) (d := 11) (fn := 101) ⟨rfl, rfl⟩ (by decide) (by kernel_rfl) rfl ?runc ((clones_any x w.drew hx).mono ?_)
  case runc => go_simp
  rintro e wd ⟨rfl, hb8⟩
  have CV : Hid (Below w.heap.size w wd) := hdr.out.trans (hb8.mono hdr.out.size)
  clear hb8
  have sd := CV.out.size
  refine ⟨_, rfl, regrown_of_below CV.out, ?_⟩
  simp only [Act.put, List.setIfInBounds_toArray, List.set_cons_zero, List.set_cons_succ]
  obtain ⟨ua, hua⟩ : ∃ u, u = wd.alloc (.cells #[.string x] 9) := ⟨_, rfl⟩
  have HUA : Hid (ua = wd.alloc (.cells #[.string x] 9)) := hua
  have BA : Hid (Below w.heap.size w ua) := by rw [hua]; exact CV.out.alloc CV.out.size _
  have sua : wd.heap.size + 1 ≤ ua.heap.size ∧ ua.heap.size ≤ wd.heap.size + 1 := by rw [hua]; simp
  have HSRC : Hid (Src ua (.slice (some ⟨wd.heap.size, 0, none⟩) 1 1) 1 1 (#[.string x] : Array Value).toList) := by
    have h1 : ua.ownsRow 0 9 1 (.slice (some ⟨wd.heap.size, 0, none⟩) 1 1) 1 (#[.string x] : Array Value).toList := by
      rw [hua]; exact own_built (Nat.zero_le _) (by unfold maxLen; omega) rfl
    exact own_src h1
  have HOWN : Hid (ua.ownsRow n0 9 1 (.slice ov o.length kv) o.length (enc 1 eS o)) := row_stable BA.out H.out.ro
  clear hua
  have HONE : Hid (∀ z ∈ (#[.string x] : Array Value).toList, z.oneCell' = true) := by intro z hz; simp at hz; subst hz; rfl
  refine oneHd (f := 0) (i := 8) (d := 12) (.slice (some ⟨wd.heap.size, 0, none⟩) 1 1) (wd.alloc (.cells #[.string x] 9)) ⟨rfl, rfl⟩ (by decide) (by kernel_rfl) rfl ?runb (regrown_of_below (CV.out.alloc CV.out.size _)) ?_
  case runb => go_simp
  simp only [Act.put, List.setIfInBounds_toArray, List.set_cons_zero, List.set_cons_succ]
  rw [← HUA.out]
  refine rest_of [9] (by kernel_rfl) (by decide) ?_
  refine oneX (f := 0) (i := 9) ⟨rfl, by decide⟩ (by kernel_rfl) rfl ?_
  refine app_ex (n := o.length) (m := 1) (v := .slice ov o.length kv) elS (.tmp 9) (.tmp 12) rfl rfl rfl HOWN.out HSRC.out HONE.out (by unfold maxLen; omega) (by omega) (by omega) ?_
  intro v' u8 hown hgr hbk
  obtain ⟨ov', kv', rfl⟩ := ownsRow_shape hown
  have hg8 : u8.heap[gx]? = some (.cells (bf vu (.slice ov o.length kv) vs) tb (0, 0)) := (hgr.block gx (by omega) (fun e => by have := (World.ownsRow.lt HOWN.out gx e.symm).1; have := H.out.lo; omega)).trans ((BA.out.block gx (by omega)).trans H.out.box)
  obtain ⟨zc8, zf8⟩ := cell_row hg8 4 (.slice ov o.length kv) (HBF.out.g4 _ _ _)
  refine ⟨trivial, ?_⟩
  refine ⟨by kernel_rfl, ?_⟩
  simp only [List.drop_succ_cons, List.drop_zero, Act.put, List.setIfInBounds_toArray]
  obtain ⟨gB, gS⟩ := H.out.step4 HBF.out BA.out hgr hbk (o' := o ++ [x]) (by rw [List.length_append, enc_append]; exact hown)
  go_wp2_with fail
  go_end0
  exact ⟨rfl, ⟨_, gB⟩, gS⟩

set_option maxRecDepth 100000 in
set_option maxHeartbeats 8000000 in
theorem shut_any (hbf : BF bf) (x : ByteArray) (w : World) (h : Bx bf tb gx n0 u o s vu vo vs w) (hn0 : n0 ≤ w.heap.size) (hl : s.length ≤ 1048576) (hx : x.size ≤ 1048576) :
    Calls Tryz.prog 72 #[.pointer (some ⟨gx, 0, none⟩), .string x] w fun e w' => e = .returned (.tuple #[]) ∧ ∃ v', Bx bf tb gx n0 u o (s ++ [x]) vu vo v' w' ∧ Stp gx tb w w' := by
  have H : Hid (Bx bf tb gx n0 u o s vu vo vs w) := h
  have hgx := h.gxlt
  have HBF : Hid (BF bf) := hbf
  obtain ⟨ov, kv, rfl⟩ := ownsRow_shape h.rs
  clear h
  clear hbf
  obtain ⟨yx, _⟩ := cell_row H.out.box 5 (.slice ov s.length kv) (HBF.out.g5 _ _ _)
  have qx := fun d os => cell_regrown yx d os
  have hdr : Hid (Below w.heap.size w w.drew) := (Below.refl _ _).drew
  go_enter Tryz.func72, Tryz.ntmps72
  refine wp_region_two 10 [0] 9 [1, 2, 3, 4, 5, 6] (by kernel_rfl) (by kernel_rfl) ?_
  simp only [List.filterMap_cons, List.filterMap_nil, List.getElem?_cons_succ, List.getElem?_cons_zero, movD, mvOf, Act.put]
  repeat (first | go_big_quiet_step (fail) | quiet_step (fail))
  refine wpQuiet_nil ?_
  clear yx qx
  refine callHd (f := 1) (i := 7) (d := 11) (fn := 101) ⟨rfl, rfl⟩ (by decide) (by kernel_rfl) rfl ?runc ((clones_any x w.drew hx).mono ?_)
  case runc => go_simp
  rintro e wd ⟨rfl, hb8⟩
  have CV : Hid (Below w.heap.size w wd) := hdr.out.trans (hb8.mono hdr.out.size)
  clear hb8
  have sd := CV.out.size
  refine ⟨_, rfl, regrown_of_below CV.out, ?_⟩
  simp only [Act.put, List.setIfInBounds_toArray, List.set_cons_zero, List.set_cons_succ]
  obtain ⟨ua, hua⟩ : ∃ u, u = wd.alloc (.cells #[.string x] 9) := ⟨_, rfl⟩
  have HUA : Hid (ua = wd.alloc (.cells #[.string x] 9)) := hua
  have BA : Hid (Below w.heap.size w ua) := by rw [hua]; exact CV.out.alloc CV.out.size _
  have sua : wd.heap.size + 1 ≤ ua.heap.size ∧ ua.heap.size ≤ wd.heap.size + 1 := by rw [hua]; simp
  have HSRC : Hid (Src ua (.slice (some ⟨wd.heap.size, 0, none⟩) 1 1) 1 1 (#[.string x] : Array Value).toList) := by
    have h1 : ua.ownsRow 0 9 1 (.slice (some ⟨wd.heap.size, 0, none⟩) 1 1) 1 (#[.string x] : Array Value).toList := by
      rw [hua]; exact own_built (Nat.zero_le _) (by unfold maxLen; omega) rfl
    exact own_src h1
  have HOWN : Hid (ua.ownsRow n0 9 1 (.slice ov s.length kv) s.length (enc 1 eS s)) := row_stable BA.out H.out.rs
  clear hua
  have HONE : Hid (∀ z ∈ (#[.string x] : Array Value).toList, z.oneCell' = true) := by intro z hz; simp at hz; subst hz; rfl
  refine oneHd (f := 0) (i := 8) (d := 12) (.slice (some ⟨wd.heap.size, 0, none⟩) 1 1) (wd.alloc (.cells #[.string x] 9)) ⟨rfl, rfl⟩ (by decide) (by kernel_rfl) rfl ?runb (regrown_of_below (CV.out.alloc CV.out.size _)) ?_
  case runb => go_simp
  simp only [Act.put, List.setIfInBounds_toArray, List.set_cons_zero, List.set_cons_succ]
  rw [← HUA.out]
  refine rest_of [9] (by kernel_rfl) (by decide) ?_
  refine oneX (f := 0) (i := 9) ⟨rfl, by decide⟩ (by kernel_rfl) rfl ?_
  refine app_ex (n := s.length) (m := 1) (v := .slice ov s.length kv) elS (.tmp 9) (.tmp 12) rfl rfl rfl HOWN.out HSRC.out HONE.out (by unfold maxLen; omega) (by omega) (by omega) ?_
  intro v' u8 hown hgr hbk
  obtain ⟨ov', kv', rfl⟩ := ownsRow_shape hown
  have hg8 : u8.heap[gx]? = some (.cells (bf vu vo (.slice ov s.length kv)) tb (0, 0)) := (hgr.block gx (by omega) (fun e => by have := (World.ownsRow.lt HOWN.out gx e.symm).1; have := H.out.lo; omega)).trans ((BA.out.block gx (by omega)).trans H.out.box)
  obtain ⟨zc8, zf8⟩ := cell_row hg8 5 (.slice ov s.length kv) (HBF.out.g5 _ _ _)
  refine ⟨trivial, ?_⟩
  refine ⟨by kernel_rfl, ?_⟩
  simp only [List.drop_succ_cons, List.drop_zero, Act.put, List.setIfInBounds_toArray]
  obtain ⟨gB, gS⟩ := H.out.step5 HBF.out BA.out hgr hbk (s' := s ++ [x]) (by rw [List.length_append, enc_append]; exact hown)
  go_wp2_with fail
  go_end0
  exact ⟨rfl, ⟨_, gB⟩, gS⟩

end Go.Proofs.YtffmfomonmhkcaaGreat

/-
  Contracts of the program's taking of places and valves out of a whole want.
-/
namespace Go.Proofs.YtffmfomonmhkcaaGreat
open Go.RowKit

attribute [local go_sem] Oper.semAt_some
def bfW (x0 x1 x2 a b c : Value) : Array Value := #[x0, x1, x2, a, b, c]
def bfA (x0 x1 x2 y0 y1 y2 y3 y4 y5 a b c : Value) : Array Value := #[x0, x1, x2, a, b, c, y0, y1, y2, y3, y4, y5]
theorem bfW_ok (x0 x1 x2 : Value) : BF (bfW x0 x1 x2) := ⟨fun _ _ _ => rfl, fun _ _ _ => rfl, fun _ _ _ => rfl, fun _ _ _ _ => rfl, fun _ _ _ _ => rfl, fun _ _ _ _ => rfl⟩
theorem bfA_ok (x0 x1 x2 y0 y1 y2 y3 y4 y5 : Value) : BF (bfA x0 x1 x2 y0 y1 y2 y3 y4 y5) := ⟨fun _ _ _ => rfl, fun _ _ _ => rfl, fun _ _ _ => rfl, fun _ _ _ _ => rfl, fun _ _ _ _ => rfl, fun _ _ _ _ => rfl⟩
theorem lst_at {S : Nat → Prop} {w : World} {l : List ByteArray} {v : Value} {B : Nat} (h : AtL S w l v) (hS : ∀ b, S b → b < B) : Lst B w v l.length 1 (cS (nthB l)) := by
  obtain ⟨oa, cap, rfl, hn, hc⟩ := h
  refine ⟨oa, cap, rfl, hn.1, fun i hi => ?_⟩
  obtain ⟨b, off, e1, e2, c, h3, h4⟩ := hc i hi
  refine ⟨b, off, e1, hS b e2, fun j hj => ?_⟩
  obtain rfl : j = 0 := by omega
  have e0 := h3 0 (by decide)
  rw [h4.1] at e0
  rw [width_str] at e0
  rw [e0]
  show some (Value.string l[i]) = some (Value.string (nthB l i))
  rw [nthB_at hi]
def hasL (l : List ByteArray) (x : ByteArray) : Bool := l.any fun f => eqB f x
theorem has_nth (l : List ByteArray) (x : ByteArray) : hasB l.length (nthB l) x = hasL l x := by
  unfold hasB hasL
  rw [Bool.eq_iff_iff, List.any_eq_true, List.any_eq_true]
  constructor
  · rintro ⟨i, hi, h⟩
    have hi := List.mem_range.1 hi
    rw [nthB_at hi] at h
    exact ⟨_, List.getElem_mem hi, h⟩
  · rintro ⟨y, hy, h⟩
    obtain ⟨i, hi, rfl⟩ := List.getElem_of_mem hy
    exact ⟨i, List.mem_range.2 hi, by rw [nthB_at hi]; exact h⟩
/-- The uses of a place; a valve, if it is among some. -/
def takU (x : ByteArray) (us : List DClaimUse) : List DClaimUse := us.filter fun p => eqB p.1 x
def takV (x : ByteArray) (l : List ByteArray) : List ByteArray := bif hasL l x then [x] else []
theorem takU_yes {x : ByteArray} {us : List DClaimUse} {p : DClaimUse} (h : eqB p.1 x = true) : takU x (us ++ [p]) = takU x us ++ [p] := by simp [takU, List.filter_append, h]
theorem takU_no {x : ByteArray} {us : List DClaimUse} {p : DClaimUse} (h : eqB p.1 x = false) : takU x (us ++ [p]) = takU x us := by simp [takU, List.filter_append, h]
theorem takU_len (x : ByteArray) (us : List DClaimUse) : (takU x us).length ≤ us.length := List.length_filter_le _ _

set_option maxRecDepth 100000 in
set_option maxHeartbeats 8000000 in
theorem takePlace_any (S : Nat → Prop) (x0 x1 x2 y0 y1 y2 y4 y5 : Value) (us : List DClaimUse) (o3 : Option Addr) (c3 : Nat) {gx n0 : Nat} {u : List DClaimUse} {o s : List ByteArray} {vu vo vs : Value} (name : ByteArray) (w : World) (h : Bx (bfA x0 x1 x2 y0 y1 y2 (.slice o3 us.length c3) y4 y5) 102 gx n0 u o s vu vo vs w) (hu : AtL S w us (.slice o3 us.length c3)) (hS : ∀ b, S b → b < gx) (hn0 : n0 ≤ w.heap.size) (hl : u.length + us.length ≤ 1048576) (hz : ∀ p ∈ us, p.1.size ≤ 1048576) :
    Calls Tryz.prog 65 #[.pointer (some ⟨gx, 0, none⟩), .string name] w fun e w' => e = .returned (.tuple #[]) ∧ ∃ v', Bx (bfA x0 x1 x2 y0 y1 y2 (.slice o3 us.length c3) y4 y5) 102 gx n0 (u ++ takU name us) o s v' vo vs w' ∧ Stp gx 102 w w' := by
  have hbf : Hid (BF (bfA x0 x1 x2 y0 y1 y2 (.slice o3 us.length c3) y4 y5)) := bfA_ok _ _ _ _ _ _ _ _ _
  have HU : Hid (∀ w', Below gx w w' → AtL S w' us (.slice o3 us.length c3)) := fun w' hb => hu.same (Same.of_below hb hS)
  have HZ : Hid (∀ p ∈ us, p.1.size ≤ 1048576) := hz
  clear hu hz
  obtain ⟨n, en⟩ : ∃ n, us.length = n := ⟨_, rfl⟩
  rw [en] at HU hl h hbf
  rw [en]
  have EN : Hid (us.length = n) := en
  clear en
  have H : Hid (Bx (bfA x0 x1 x2 y0 y1 y2 (.slice o3 n c3) y4 y5) 102 gx n0 u o s vu vo vs w) := h
  have hgx := h.gxlt
  clear h
  have y9 := (cell_row H.out.box 9 (.slice o3 n c3) rfl).1
  go_enter Tryz.func65, Tryz.ntmps65
  go_wp2_with fail
  clear y9
  go_loopw [12] (fun i wr => ∃ (k : Nat) (vk : Value), k ≤ n ∧ i = .int .i64 k ∧ Hid (Bx (bfA x0 x1 x2 y0 y1 y2 (.slice o3 n c3) y4 y5) 102 gx n0 (u ++ takU name (us.take k)) o s vk vo vs wr) ∧ Hid (Stp gx 102 w wr)) (fun i _ => n - (intOf i).toNat)
  case atStart => exact ⟨0, vu, Nat.zero_le _, rfl, by simpa [takU, Hid] using H.out, Stp.refl _ _ _⟩
  case round =>
    obtain ⟨k, vk, hk, rfl, hX, hT⟩ := hrel
    have bwr : Hid (Below gx w wr) := hT.out.low hbf.out H.out (Nat.le_refl _)
    have hsz := hT.out.but.size
    by_cases hlt : k < n
    · obtain ⟨oa, cp, ev, _, hc⟩ := HU.out wr bwr.out
      obtain ⟨b, off, eo, hbS, cc, hcell, hat⟩ := hc k (by rw [EN.out]; exact hlt)
      have eo1 : o3 = some ⟨b, off, none⟩ := by injection ev with h1 _ _; exact h1.trans eo
      subst eo1
      clear ev eo hc
      rw [width_DClaimUse] at hcell
      have e0 : wr.cell? ⟨b, off + k * 3, none⟩ = some (cc 0) := hcell 0 (by omega)
      have e1 : wr.cell? ⟨b, off + k * 3 + 1, none⟩ = some (cc 1) := hcell 1 (by omega)
      have e2 : wr.cell? ⟨b, off + k * 3 + 2, none⟩ = some (cc 2) := hcell 2 (by omega)
      clear hcell
      rw [at_DClaimUse] at hat
      have htk : Hid (us.take (k + 1) = us.take k ++ [us[k]'(by rw [EN.out]; exact hlt)]) := by
        show _ = _
        rw [List.take_add_one, List.getElem?_eq_getElem (by rw [EN.out]; exact hlt)]; rfl
      have hzp := HZ.out _ (List.getElem_mem (show k < us.length by rw [EN.out]; exact hlt))
      obtain ⟨p, ep⟩ : ∃ p, us[k]'(by rw [EN.out]; exact hlt) = p := ⟨_, rfl⟩
      rw [ep] at hat htk hzp
      clear ep
      obtain ⟨⟨t0, _⟩, ⟨t1, _⟩, ⟨t2, _⟩⟩ := hat
      rw [t0] at e0
      rw [t1] at e1
      rw [t2] at e2
      clear t0 t1 t2
      have hul : (u ++ takU name (us.take k)).length ≤ 1048576 := by have a1 := takU_len name (us.take k); rw [List.length_take] at a1; rw [List.length_append]; omega
      obtain ⟨U, hU⟩ : ∃ V, V = wr.alloc (.cells #[.string p.1, .int .i64 p.2.1, .int .i64 p.2.2] 54) := ⟨_, rfl⟩
      have EU : Hid (U = wr.alloc (.cells #[.string p.1, .int .i64 p.2.1, .int .i64 p.2.2] 54)) := hU
      have BU : Hid (Below wr.heap.size wr U) := by rw [hU]; exact (Below.refl _ _).alloc (Nat.le_refl _) _
      have XP : U.heap[wr.heap.size]? = some (.cells #[.string p.1, .int .i64 p.2.1, .int .i64 p.2.2] 54 (0, 0)) := by rw [hU]; exact heap_alloc_new wr _
      have sU : U.heap.size = wr.heap.size + 1 := by rw [hU]; simp
      clear hU
      have hXU : Hid (Bx (bfA x0 x1 x2 y0 y1 y2 (.slice (some ⟨b, off, none⟩) n c3) y4 y5) 102 gx n0 (u ++ takU name (us.take k)) o s vk vo vs U) := hX.out.below hbf.out BU.out
      have hTU : Hid (Stp gx 102 w U) := hT.out.trans (Stp.of_below BU.out (by omega))
      obtain ⟨z0, _⟩ := cell_row XP 0 (.string p.1) rfl
      obtain ⟨z1, _⟩ := cell_row XP 1 (.int .i64 p.2.1) rfl
      obtain ⟨z2, _⟩ := cell_row XP 2 (.int .i64 p.2.2) rfl
      cases hE : eqB p.1 name
      · have hE2 : (p.1.toList == name.toList) = false := hE
        go_upto_region 3 with fail
        rw [← EU.out]
        go_wp2_with fail
        go_roundw
        case rel => exact ⟨k + 1, vk, by omega, by go_num, by show Bx _ _ _ _ _ _ _ _ _ _ _; rw [htk.out, takU_no hE]; exact hXU.out, hTU⟩
        case measure => simp [intOf]; omega
      · have hE2 : (p.1.toList == name.toList) = true := hE
        have q0 := fun d os => cell_regrown z0 d os
        have q1 := fun d os => cell_regrown z1 d os
        have q2 := fun d os => cell_regrown z2 d os
        go_upto_region 4 with (first | rw [← EU.out])
        refine wp_region_two 9 [] 9 [0, 1, 2, 3, 4, 5, 6, 7, 8] (by kernel_rfl) (by kernel_rfl) ?_
        simp only [List.filterMap_cons, List.filterMap_nil, List.getElem?_cons_succ, List.getElem?_cons_zero, movD]
        repeat (first | go_big_quiet_step (fail) | quiet_step (fail))
        refine wpQuiet_nil ?_
        refine rest_of [9] (by kernel_rfl) (by decide) ?_
        refine ⟨by kernel_rfl, ?_⟩
        simp only [List.drop_succ_cons, List.drop_zero]
        clear e0 e1 e2 z0 z1 z2 q0 q1 q2
        have hXD : Hid (Bx (bfA x0 x1 x2 y0 y1 y2 (.slice (some ⟨b, off, none⟩) n c3) y4 y5) 102 gx n0 (u ++ takU name (us.take k)) o s vk vo vs U.drew) := hXU.out.below hbf.out (Below.refl _ _).drew
        have hTD : Hid (Stp gx 102 w U.drew) := hTU.out.trans (Stp.of_below (Below.refl _ _).drew (by omega))
        have sD : Hid (n0 ≤ U.drew.heap.size) := Nat.le_trans (by omega) (Below.size (Below.drew (Below.refl U.heap.size U)))
        go_wp2_with (first
          | (go_at_call 70; refine (use_any hbf.out p.1 p.2.1 p.2.2 U.drew hXD.out sD.out hul hzp).mono ?_; rintro e w9 ⟨rfl, v9, hX9, hT9⟩))
        go_roundw
        case rel => exact ⟨k + 1, v9, by omega, by go_num, by show Bx _ _ _ _ _ _ _ _ _ _ _; rw [htk.out, takU_yes hE, ← List.append_assoc]; exact hX9, hTD.out.trans hT9⟩
        case measure => simp [intOf]; omega
    · have hkn : k = n := by omega
      have ETL : us.take k = us := List.take_of_length_le (by rw [EN.out, hkn]; exact Nat.le_refl _)
      rw [ETL] at hX
      go_wp2_with fail
      go_end0
      exact ⟨rfl, _, hX.out, hT.out⟩

set_option maxRecDepth 100000 in
set_option maxHeartbeats 8000000 in
theorem takeValve_any (S : Nat → Prop) (x0 x1 x2 y0 y1 y2 y3 : Value) (os ss : List ByteArray) (o4 o5 : Option Addr) (c4 c5 : Nat) {gx n0 : Nat} {u : List DClaimUse} {o s : List ByteArray} {vu vo vs : Value} (name : ByteArray) (w : World) (h : Bx (bfA x0 x1 x2 y0 y1 y2 y3 (.slice o4 os.length c4) (.slice o5 ss.length c5)) 102 gx n0 u o s vu vo vs w) (h4 : AtL S w os (.slice o4 os.length c4)) (h5 : AtL S w ss (.slice o5 ss.length c5)) (hS : ∀ b, S b → b < gx) (hn0 : n0 ≤ w.heap.size) (hlo : o.length ≤ 1048576) (hls : s.length ≤ 1048576) (hx : name.size ≤ 1048576) :
    Calls Tryz.prog 67 #[.pointer (some ⟨gx, 0, none⟩), .string name] w fun e w' => e = .returned (.tuple #[]) ∧ ∃ v' v'', Bx (bfA x0 x1 x2 y0 y1 y2 y3 (.slice o4 os.length c4) (.slice o5 ss.length c5)) 102 gx n0 u (o ++ takV name os) (s ++ takV name ss) vu v' v'' w' ∧ Stp gx 102 w w' := by
  have hbf : Hid (BF (bfA x0 x1 x2 y0 y1 y2 y3 (.slice o4 os.length c4) (.slice o5 ss.length c5))) := bfA_ok _ _ _ _ _ _ _ _ _
  have H : Hid (Bx (bfA x0 x1 x2 y0 y1 y2 y3 (.slice o4 os.length c4) (.slice o5 ss.length c5)) 102 gx n0 u o s vu vo vs w) := h
  have hgx := h.gxlt
  have H4 : Hid (Calls Tryz.prog 85 #[.slice o4 os.length c4, .string name] w fun e w' => e = .returned (.bool (hasL os name)) ∧ w' = w) := by
    have := hasI_any gx _ _ (nthB os) name w (lst_at h4 hS)
    rw [has_nth] at this
    exact this
  have H5 : Hid (∀ w', Below gx w w' → Calls Tryz.prog 85 #[.slice o5 ss.length c5, .string name] w' fun e w'' => e = .returned (.bool (hasL ss name)) ∧ w'' = w') := fun w' hb => by
    have := hasI_any gx _ _ (nthB ss) name w' (lst_at (h5.same (Same.of_below hb hS)) hS)
    rw [has_nth] at this
    exact this
  clear h h4 h5
  have y10 := (cell_row H.out.box 10 (.slice o4 os.length c4) rfl).1
  have y11 := (cell_row H.out.box 11 (.slice o5 ss.length c5) rfl).1
  go_enter Tryz.func67, Tryz.ntmps67
  cases b4 : hasL os name
  · rw [b4] at H4
    have T0 : Hid (Stp gx 102 w w) := Stp.refl _ _ _
    go_upto_region 2 with (first
      | (go_at_call 85; refine (H4.out).mono ?_; rintro e w' ⟨rfl, hw⟩; have hw := hw.symm; subst hw))
    clear y10 y11
    have c11 := (cell_row H.out.box 11 (.slice o5 ss.length c5) rfl).1
    have HC5 : Hid (Calls Tryz.prog 85 #[.slice o5 ss.length c5, .string name] w fun e w'' => e = .returned (.bool (hasL ss name)) ∧ w'' = w) := H5.out w (T0.out.low hbf.out H.out (Nat.le_refl _))
    cases b5 : hasL ss name
    · rw [b5] at HC5
      go_wp2_with (first
        | (go_at_call 85; refine (HC5.out).mono ?_; rintro e w' ⟨rfl, hw⟩; have hw := hw.symm; subst hw))
      go_end0
      have e4 : takV name os = [] := by simp [takV, b4]
      have e5 : takV name ss = [] := by simp [takV, b5]
      rw [e4, e5]
      simp only [List.append_nil]
      exact ⟨(by first | rfl | trivial), _, _, H.out, T0.out⟩
    · rw [b5] at HC5
      go_wp2_with (first
        | (go_at_call 85; refine (HC5.out).mono ?_; rintro e w' ⟨rfl, hw⟩; have hw := hw.symm; subst hw)
        | (go_at_call 72; refine (shut_any hbf.out name w H.out (Nat.le_trans hn0 T0.out.but.size) hls hx).mono ?_; rintro e w9 ⟨rfl, v9, hX9, hT9⟩))
      go_end0
      have e4 : takV name os = [] := by simp [takV, b4]
      have e5 : takV name ss = [name] := by simp [takV, b5]
      rw [e4, e5]
      simp only [List.append_nil]
      exact ⟨(by first | rfl | trivial), _, _, hX9, T0.out.trans hT9⟩
  · rw [b4] at H4
    have T0 : Hid (Stp gx 102 w w) := Stp.refl _ _ _
    go_upto_region 2 with (first
      | (go_at_call 85; refine (H4.out).mono ?_; rintro e w' ⟨rfl, hw⟩; have hw := hw.symm; subst hw)
      | (go_at_call 100; refine (open_any hbf.out name w H.out hn0 hlo hx).mono ?_; rintro e w8 ⟨rfl, v8, hX8, hT8⟩))
    clear y10 y11
    have X8 : Hid (Bx (bfA x0 x1 x2 y0 y1 y2 y3 (.slice o4 os.length c4) (.slice o5 ss.length c5)) 102 gx n0 u (o ++ [name]) s vu v8 vs w8) := hX8
    have T8 : Hid (Stp gx 102 w w8) := hT8
    clear hX8 hT8
    have c11 := (cell_row X8.out.box 11 (.slice o5 ss.length c5) rfl).1
    have HC5 : Hid (Calls Tryz.prog 85 #[.slice o5 ss.length c5, .string name] w8 fun e w'' => e = .returned (.bool (hasL ss name)) ∧ w'' = w8) := H5.out w8 (T8.out.low hbf.out H.out (Nat.le_refl _))
    cases b5 : hasL ss name
    · rw [b5] at HC5
      go_wp2_with (first
        | (go_at_call 85; refine (HC5.out).mono ?_; rintro e w' ⟨rfl, hw⟩; have hw := hw.symm; subst hw))
      go_end0
      have e4 : takV name os = [name] := by simp [takV, b4]
      have e5 : takV name ss = [] := by simp [takV, b5]
      rw [e4, e5]
      simp only [List.append_nil]
      exact ⟨(by first | rfl | trivial), _, _, X8.out, T8.out⟩
    · rw [b5] at HC5
      go_wp2_with (first
        | (go_at_call 85; refine (HC5.out).mono ?_; rintro e w' ⟨rfl, hw⟩; have hw := hw.symm; subst hw)
        | (go_at_call 72; refine (shut_any hbf.out name w8 X8.out (Nat.le_trans hn0 T8.out.but.size) hls hx).mono ?_; rintro e w9 ⟨rfl, v9, hX9, hT9⟩))
      go_end0
      have e4 : takV name os = [name] := by simp [takV, b4]
      have e5 : takV name ss = [name] := by simp [takV, b5]
      rw [e4, e5]
      exact ⟨(by first | rfl | trivial), _, _, hX9, T8.out.trans hT9⟩

end Go.Proofs.YtffmfomonmhkcaaGreat
