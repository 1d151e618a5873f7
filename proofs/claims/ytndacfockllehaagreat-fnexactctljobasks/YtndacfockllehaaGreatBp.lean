/-
  Contracts of the program's builder of wants: a use, a valve that is opened, a valve that is kept shut.
-/
import Derived.Test.YtndacfockllehaaGreatM24
import Derived.Test.YtndacfockllehaaGreatM17
import Derived.Deep.Cut
namespace Go.Proofs.YtndacfockllehaaGreat
open Go.RowKit

attribute [local go_sem] Oper.semAt_some
theorem app_ex {P : Program} {t e : TypeId} {size bytes base n m : Nat} {w : World} {o : Oper} {a : Act} {v sv : Value} {xs news : List Value} {K : Value → World → Prop} (T : ElT P t e size bytes) (s x : Operand) (ho : o.op = .call { callee := .builtin .append, args := #[s, x], argTypes := #[t, t] })
    (hs : a.eval s = v) (hx : a.eval x = sv) (hown : w.ownsRow base e size v n xs) (hsrc : Src w sv m size news) (h1 : ∀ u ∈ news, u.oneCell' = true) (h63 : n + m ≤ maxLen) (hbytes : (n + m) * bytes ≤ 140737488355328) (hbase : base ≤ w.heap.size)
    (hk : ∀ v' w', w'.ownsRow base e size v' (n + m) (xs ++ news) → w.grownBy w' v.ownBlock → (v'.ownBlock = v.ownBlock ∨ v'.ownBlock = some w.heap.size) → K v' w') : ∃ u w', (execOp a.eval o).run P w = .ok (.value u) w' ∧ K u w' := by
  obtain ⟨v', w', hr, h2, h3, h4⟩ := run_app (P := P) T hown hsrc h1 h63 hbytes hbase o.type
  refine ⟨v', w', ?_, hk v' w' h2 h3 h4⟩
  unfold execOp
  simp only [ho, resolve, invoke, builtin, Sem.run_bind, Sem.run_pure, Result.andThen_ok, List.map_toArray, List.map_cons, List.map_nil, hs, hx, hr]
variable {bf : Value → Value → Value → Array Value} {tb : TypeId} {gx n0 : Nat} {u : List DClaimUse} {o s : List ByteArray} {vu vo vs : Value}

set_option maxRecDepth 100000 in
set_option maxHeartbeats 8000000 in
theorem use_any (hbf : BF bf) (x : ByteArray) (r a : Int) (w : World) (h : Bx bf tb gx n0 u o s vu vo vs w) (hn0 : n0 ≤ w.heap.size) (hl : u.length ≤ 1048576) (hx : x.size ≤ 1048576) :
    Calls Tryz.prog 95 #[.pointer (some ⟨gx, 0, none⟩), .string x, .int .i64 r, .int .i64 a] w fun e w' => e = .returned (.tuple #[]) ∧ ∃ v', Bx bf tb gx n0 (u ++ [(x, r, a)]) o s v' vo vs w' ∧ Stp gx tb w w' := by
  have H : Hid (Bx bf tb gx n0 u o s vu vo vs w) := h
  have hgx := h.gxlt
  have HBF : Hid (BF bf) := hbf
  obtain ⟨ov, kv, rfl⟩ := ownsRow_shape h.ru
  clear h
  clear hbf
  obtain ⟨yx, _⟩ := cell_row H.out.box 3 (.slice ov u.length kv) (HBF.out.g3 _ _ _)
  have qx := fun d os => cell_regrown yx d os
  have hdr : Hid (Below w.heap.size w w.drew) := (Below.refl _ _).drew
  go_enter Tryz.func95, Tryz.ntmps95
  refine wp_region_two 13 [0] 12 [1, 2, 3, 4, 5, 6, 8, 9] (by kernel_rfl) (by kernel_rfl) ?_
  simp only [List.filterMap_cons, List.filterMap_nil, List.getElem?_cons_succ, List.getElem?_cons_zero, movD, mvOf, Act.put]
  repeat (first | go_big_quiet_step (fail) | quiet_step (fail))
  refine wpQuiet_nil ?_
  clear yx qx
  refine callHd (f := 2) (i := 7) (d := 15) (fn := 130) ⟨rfl, rfl⟩ (by decide) (by kernel_rfl) rfl ?runc ((clones_any x w.drew hx).mono ?_)
  case runc => go_simp
  rintro e wd ⟨rfl, hb8⟩
  have CV : Hid (Below w.heap.size w wd) := hdr.out.trans (hb8.mono hdr.out.size)
  clear hb8
  have sd := CV.out.size
  refine ⟨_, rfl, regrown_of_below CV.out, ?_⟩
  simp only [Act.put, List.setIfInBounds_toArray, List.set_cons_zero, List.set_cons_succ]
  obtain ⟨ua, hua⟩ : ∃ u, u = wd.alloc (.cells #[.string x, .int .i64 r, .int .i64 a] 95) := ⟨_, rfl⟩
  have HUA : Hid (ua = wd.alloc (.cells #[.string x, .int .i64 r, .int .i64 a] 95)) := hua
  have BA : Hid (Below w.heap.size w ua) := by rw [hua]; exact CV.out.alloc CV.out.size _
  have sua : wd.heap.size + 1 ≤ ua.heap.size ∧ ua.heap.size ≤ wd.heap.size + 1 := by rw [hua]; simp
  have HSRC : Hid (Src ua (.slice (some ⟨wd.heap.size, 0, none⟩) 1 1) 1 3 (#[.string x, .int .i64 r, .int .i64 a] : Array Value).toList) := by
    have h1 : ua.ownsRow 0 95 3 (.slice (some ⟨wd.heap.size, 0, none⟩) 1 1) 1 (#[.string x, .int .i64 r, .int .i64 a] : Array Value).toList := by
      rw [hua]; exact own_built (Nat.zero_le _) (by unfold maxLen; omega) rfl
    exact own_src h1
  have HOWN : Hid (ua.ownsRow n0 95 3 (.slice ov u.length kv) u.length (enc 3 eU u)) := row_stable BA.out H.out.ru
  clear hua
  have HONE : Hid (∀ z ∈ (#[.string x, .int .i64 r, .int .i64 a] : Array Value).toList, z.oneCell' = true) := by intro z hz; simp at hz; rcases hz with rfl | rfl | rfl <;> rfl
  refine oneHd (f := 1) (i := 10) (d := 18) (.agg #[.string x, .int .i64 r, .int .i64 a]) wd ⟨rfl, rfl⟩ (by decide) (by kernel_rfl) rfl ?runa (regrown_of_below CV.out) ?_
  case runa => go_simp
  simp only [Act.put, List.setIfInBounds_toArray, List.set_cons_zero, List.set_cons_succ]
  refine oneHd (f := 0) (i := 11) (d := 19) (.slice (some ⟨wd.heap.size, 0, none⟩) 1 1) (wd.alloc (.cells #[.string x, .int .i64 r, .int .i64 a] 95)) ⟨rfl, rfl⟩ (by decide) (by kernel_rfl) rfl ?runb (regrown_of_below (CV.out.alloc CV.out.size _)) ?_
  case runb => go_simp
  simp only [Act.put, List.setIfInBounds_toArray, List.set_cons_zero, List.set_cons_succ]
  rw [← HUA.out]
  refine rest_of [12] (by kernel_rfl) (by decide) ?_
  refine oneX (f := 0) (i := 12) ⟨rfl, by decide⟩ (by kernel_rfl) rfl ?_
  refine app_ex (n := u.length) (m := 1) (v := .slice ov u.length kv) elU (.tmp 13) (.tmp 19) rfl rfl rfl HOWN.out HSRC.out HONE.out (by unfold maxLen; omega) (by omega) (by omega) ?_
  intro v' u8 hown hgr hbk
  obtain ⟨ov', kv', rfl⟩ := ownsRow_shape hown
  have hg8 : u8.heap[gx]? = some (.cells (bf (.slice ov u.length kv) vo vs) tb (0, 0)) := (hgr.block gx (by omega) (fun e => by have := (World.ownsRow.lt HOWN.out gx e.symm).1; have := H.out.lo; omega)).trans ((BA.out.block gx (by omega)).trans H.out.box)
  obtain ⟨zc8, zf8⟩ := cell_row hg8 3 (.slice ov u.length kv) (HBF.out.g3 _ _ _)
  refine ⟨trivial, ?_⟩
  refine ⟨by kernel_rfl, ?_⟩
  simp only [List.drop_succ_cons, List.drop_zero, Act.put, List.setIfInBounds_toArray]
  obtain ⟨gB, gS⟩ := H.out.step3 HBF.out BA.out hgr hbk (u' := u ++ [(x, r, a)]) (by rw [List.length_append, enc_append]; exact hown)
  go_wp2_with fail
  go_end0
  exact ⟨rfl, ⟨_, gB⟩, gS⟩

set_option maxRecDepth 100000 in
set_option maxHeartbeats 8000000 in
theorem open_any (hbf : BF bf) (x : ByteArray) (w : World) (h : Bx bf tb gx n0 u o s vu vo vs w) (hn0 : n0 ≤ w.heap.size) (hl : o.length ≤ 1048576) (hx : x.size ≤ 1048576) :
    Calls Tryz.prog 96 #[.pointer (some ⟨gx, 0, none⟩), .string x] w fun e w' => e = .returned (.tuple #[]) ∧ ∃ v', Bx bf tb gx n0 u (o ++ [x]) s vu v' vs w' ∧ Stp gx tb w w' := by
  have H : Hid (Bx bf tb gx n0 u o s vu vo vs w) := h
  have hgx := h.gxlt
  have HBF : Hid (BF bf) := hbf
  obtain ⟨ov, kv, rfl⟩ := ownsRow_shape h.ro
  clear h
  clear hbf
  obtain ⟨yx, _⟩ := cell_row H.out.box 4 (.slice ov o.length kv) (HBF.out.g4 _ _ _)
  have qx := fun d os => cell_regrown yx d os
  have hdr : Hid (Below w.heap.size w w.drew) := (Below.refl _ _).drew
  go_enter Tryz.func96, Tryz.ntmps96
  refine wp_region_two 10 [0] 9 [1, 2, 3, 4, 5, 6] (by kernel_rfl) (by kernel_rfl) ?_
  simp only [List.filterMap_cons, List.filterMap_nil, List.getElem?_cons_succ, List.getElem?_cons_zero, movD, mvOf, Act.put]
  repeat (first | go_big_quiet_step (fail) | quiet_step (fail))
  refine wpQuiet_nil ?_
  clear yx qx
  refine callHd (f := 1) (i := 7) (d := 11) (fn := 130) ⟨rfl, rfl⟩ (by decide) (by kernel_rfl) rfl ?runc ((clones_any x w.drew hx).mono ?_)
  case runc => go_simp
  rintro e wd ⟨rfl, hb8⟩
  have CV : Hid (Below w.heap.size w wd) := hdr.out.trans (hb8.mono hdr.out.size)
  clear hb8
  have sd := CV.out.size
  refine ⟨_, rfl, regrown_of_below CV.out, ?_⟩
  simp only [Act.put, List.setIfInBounds_toArray, List.set_cons_zero, List.set_cons_succ]
  obtain ⟨ua, hua⟩ : ∃ u, u = wd.alloc (.cells #[.string x] 9) := ⟨_, rfl⟩
  have HUA : Hid (ua = wd.alloc (.cells #[.string x] 9)) := hua
  have BA : Hid (Below w.heap.size w ua) := by rw [hua]; exact CV.out.alloc CV.out.size _
  have sua : wd.heap.size + 1 ≤ ua.heap.size ∧ ua.heap.size ≤ wd.heap.size + 1 := by rw [hua]; simp
  have HSRC : Hid (Src ua (.slice (some ⟨wd.heap.size, 0, none⟩) 1 1) 1 1 (#[.string x] : Array Value).toList) := by
    have h1 : ua.ownsRow 0 9 1 (.slice (some ⟨wd.heap.size, 0, none⟩) 1 1) 1 (#[.string x] : Array Value).toList := by
      rw [hua]; exact own_built (Nat.zero_le _) (by unfold maxLen; omega) rfl
    exact own_src h1
  have HOWN : Hid (ua.ownsRow n0 9 1 (.slice ov o.length kv) o.length (enc 1 eS o)) := row_stable BA.out H.out.ro
  clear hua
  have HONE : Hid (∀ z ∈ (#[.string x] : Array Value).toList, z.oneCell' = true) := by intro z hz; simp at hz; subst hz; rfl
  refine oneHd (f := 0) (i := 8) (d := 12) (.slice (some ⟨wd.heap.size, 0, none⟩) 1 1) (wd.alloc (.cells #[.string x] 9)) ⟨rfl, rfl⟩ (by decide) (by kernel_rfl) rfl ?runb (regrown_of_below (CV.out.alloc CV.out.size _)) ?_
  case runb => go_simp
  simp only [Act.put, List.setIfInBounds_toArray, List.set_cons_zero, List.set_cons_succ]
  rw [← HUA.out]
  refine rest_of [9] (by kernel_rfl) (by decide) ?_
  refine oneX (f := 0) (i := 9) ⟨rfl, by decide⟩ (by kernel_rfl) rfl ?_
  refine app_ex (n := o.length) (m := 1) (v := .slice ov o.length kv) elS (.tmp 9) (.tmp 12) rfl rfl rfl HOWN.out HSRC.out HONE.out (by unfold maxLen; omega) (by omega) (by omega) ?_
  intro v' u8 hown hgr hbk
  obtain ⟨ov', kv', rfl⟩ := ownsRow_shape hown
  have hg8 : u8.heap[gx]? = some (.cells (bf vu (.slice ov o.length kv) vs) tb (0, 0)) := (hgr.block gx (by omega) (fun e => by have := (World.ownsRow.lt HOWN.out gx e.symm).1; have := H.out.lo; omega)).trans ((BA.out.block gx (by omega)).trans H.out.box)
  obtain ⟨zc8, zf8⟩ := cell_row hg8 4 (.slice ov o.length kv) (HBF.out.g4 _ _ _)
  refine ⟨trivial, ?_⟩
  refine ⟨by kernel_rfl, ?_⟩
  simp only [List.drop_succ_cons, List.drop_zero, Act.put, List.setIfInBounds_toArray]
  obtain ⟨gB, gS⟩ := H.out.step4 HBF.out BA.out hgr hbk (o' := o ++ [x]) (by rw [List.length_append, enc_append]; exact hown)
  go_wp2_with fail
  go_end0
  exact ⟨rfl, ⟨_, gB⟩, gS⟩

set_option maxRecDepth 100000 in
set_option maxHeartbeats 8000000 in
theorem shut_any (hbf : BF bf) (x : ByteArray) (w : World) (h : Bx bf tb gx n0 u o s vu vo vs w) (hn0 : n0 ≤ w.heap.size) (hl : s.length ≤ 1048576) (hx : x.size ≤ 1048576) :
    Calls Tryz.prog 98 #[.pointer (some ⟨gx, 0, none⟩), .string x] w fun e w' => e = .returned (.tuple #[]) ∧ ∃ v', Bx bf tb gx n0 u o (s ++ [x]) vu vo v' w' ∧ Stp gx tb w w' := by
  have H : Hid (Bx bf tb gx n0 u o s vu vo vs w) := h
  have hgx := h.gxlt
  have HBF : Hid (BF bf) := hbf
  obtain ⟨ov, kv, rfl⟩ := ownsRow_shape h.rs
  clear h
  clear hbf
  obtain ⟨yx, _⟩ := cell_row H.out.box 5 (.slice ov s.length kv) (HBF.out.g5 _ _ _)
  have qx := fun d os => cell_regrown yx d os
  have hdr : Hid (Below w.heap.size w w.drew) := (Below.refl _ _).drew
  go_enter Tryz.func98, Tryz.ntmps98
  refine wp_region_two 10 [0] 9 [1, 2, 3, 4, 5, 6] (by kernel_rfl) (by kernel_rfl) ?_
  simp only [List.filterMap_cons, List.filterMap_nil, List.getElem?_cons_succ, List.getElem?_cons_zero, movD, mvOf, Act.put]
  repeat (first | go_big_quiet_step (fail) | quiet_step (fail))
  refine wpQuiet_nil ?_
  clear yx qx
  refine callHd (f := 1) (i := 7) (d := 11) (fn := 130) ⟨rfl, rfl⟩ (by decide) (by kernel_rfl) rfl ?runc ((clones_any x w.drew hx).mono ?_)
  case runc => go_simp
  rintro e wd ⟨rfl, hb8⟩
  have CV : Hid (Below w.heap.size w wd) := hdr.out.trans (hb8.mono hdr.out.size)
  clear hb8
  have sd := CV.out.size
  refine ⟨_, rfl, regrown_of_below CV.out, ?_⟩
  simp only [Act.put, List.setIfInBounds_toArray, List.set_cons_zero, List.set_cons_succ]
  obtain ⟨ua, hua⟩ : ∃ u, u = wd.alloc (.cells #[.string x] 9) := ⟨_, rfl⟩
  have HUA : Hid (ua = wd.alloc (.cells #[.string x] 9)) := hua
  have BA : Hid (Below w.heap.size w ua) := by rw [hua]; exact CV.out.alloc CV.out.size _
  have sua : wd.heap.size + 1 ≤ ua.heap.size ∧ ua.heap.size ≤ wd.heap.size + 1 := by rw [hua]; simp
  have HSRC : Hid (Src ua (.slice (some ⟨wd.heap.size, 0, none⟩) 1 1) 1 1 (#[.string x] : Array Value).toList) := by
    have h1 : ua.ownsRow 0 9 1 (.slice (some ⟨wd.heap.size, 0, none⟩) 1 1) 1 (#[.string x] : Array Value).toList := by
      rw [hua]; exact own_built (Nat.zero_le _) (by unfold maxLen; omega) rfl
    exact own_src h1
  have HOWN : Hid (ua.ownsRow n0 9 1 (.slice ov s.length kv) s.length (enc 1 eS s)) := row_stable BA.out H.out.rs
  clear hua
  have HONE : Hid (∀ z ∈ (#[.string x] : Array Value).toList, z.oneCell' = true) := by intro z hz; simp at hz; subst hz; rfl
  refine oneHd (f := 0) (i := 8) (d := 12) (.slice (some ⟨wd.heap.size, 0, none⟩) 1 1) (wd.alloc (.cells #[.string x] 9)) ⟨rfl, rfl⟩ (by decide) (by kernel_rfl) rfl ?runb (regrown_of_below (CV.out.alloc CV.out.size _)) ?_
  case runb => go_simp
  simp only [Act.put, List.setIfInBounds_toArray, List.set_cons_zero, List.set_cons_succ]
  rw [← HUA.out]
  refine rest_of [9] (by kernel_rfl) (by decide) ?_
  refine oneX (f := 0) (i := 9) ⟨rfl, by decide⟩ (by kernel_rfl) rfl ?_
  refine app_ex (n := s.length) (m := 1) (v := .slice ov s.length kv) elS (.tmp 9) (.tmp 12) rfl rfl rfl HOWN.out HSRC.out HONE.out (by unfold maxLen; omega) (by omega) (by omega) ?_
  intro v' u8 hown hgr hbk
  obtain ⟨ov', kv', rfl⟩ := ownsRow_shape hown
  have hg8 : u8.heap[gx]? = some (.cells (bf vu vo (.slice ov s.length kv)) tb (0, 0)) := (hgr.block gx (by omega) (fun e => by have := (World.ownsRow.lt HOWN.out gx e.symm).1; have := H.out.lo; omega)).trans ((BA.out.block gx (by omega)).trans H.out.box)
  obtain ⟨zc8, zf8⟩ := cell_row hg8 5 (.slice ov s.length kv) (HBF.out.g5 _ _ _)
  refine ⟨trivial, ?_⟩
  refine ⟨by kernel_rfl, ?_⟩
  simp only [List.drop_succ_cons, List.drop_zero, Act.put, List.setIfInBounds_toArray]
  obtain ⟨gB, gS⟩ := H.out.step5 HBF.out BA.out hgr hbk (s' := s ++ [x]) (by rw [List.length_append, enc_append]; exact hown)
  go_wp2_with fail
  go_end0
  exact ⟨rfl, ⟨_, gB⟩, gS⟩

end Go.Proofs.YtndacfockllehaaGreat
