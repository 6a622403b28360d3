/- The landed ideal's small functions: cmp.Compare, cmp.Or, compare, what may be first and last of a list. Conditions: the lists' cells. -/
import Derived.Test.YtfidamiomnohcaaIdMath2
import Derived.Test.YtfidamiomnohcaaRegion7
import Derived.Test.YtfidamiomnohcaaRunBin
import Derived.Test.YtfidamiomnohcaaChain
import Derived.Test.YtfidamiomnohcaaInts
import Derived.Test.YtfidamiomnohcaaQuiet
import Derived.Test.YtfidamiomnohcaaOneApp
import Derived.Shelf.SlSortCmp.QuietGrown
set_option linter.unusedVariables false
set_option linter.unusedSimpArgs false
set_option maxRecDepth 20000
namespace Go.Proofs.Ytfidamiomnohcaa
open Go.RowKit Go.Sort

/-- New blocks alone, and draws. -/
def Gro (x y : World) : Prop := ∃ q os, y = grow (x.drewN q) os
theorem gro_refl (x : World) : Gro x x := ⟨0, #[], by rw [grow_empty]; rfl⟩
theorem gro_alloc (x : World) (o : Obj) : Gro x (x.alloc o) := ⟨0, #[o], by rw [alloc_eq_grow]; rfl⟩
theorem gro_drew (x : World) : Gro x x.drew := ⟨1, #[], by rw [grow_empty]; rfl⟩
theorem Gro.trans {x y z : World} (h : Gro x y) (k : Gro y z) : Gro x z := by
  obtain ⟨q, os, rfl⟩ := h
  obtain ⟨q2, os2, rfl⟩ := k
  exact ⟨q + q2, os ++ os2, by
    show grow (grow ((x.drewN q).drewN q2) os) os2 = _
    rw [grow_grow, World.drewN_drewN]⟩
theorem Gro.later {x y : World} (h : Gro x y) : Later x y := by
  obtain ⟨q, os, rfl⟩ := h
  exact ⟨rfl, rfl, rfl, by show x.heap.size ≤ (x.heap ++ os).size; rw [Array.size_append]; omega, fun j hj => by
    show (x.heap ++ os)[j]? = x.heap[j]?
    rw [Array.getElem?_append_left hj]⟩
theorem calm7g {ms ks : List Nat} {J : List Bool → List Value → World → Prop} {i : Nat} {listed : Array Bool} {a : Act} {d : Option Nat} {v : Value} {w w' : World} (hJ : ∀ fs vs x y, J fs vs x → Gro x y → J fs vs y) (hm : ms.contains i = false) (hk : (match d with | some k => ks.contains k | none => false) = false) (h : J (flags ms listed) (slots ks a) w) (hl : Gro w w') :
    J (flags ms (listed.setIfInBounds i true)) (slots ks (a.put d v)) w' := by
  rw [flags_other hm, slots_put (fun k e => by rw [e] at hk; exact hk)]
  exact hJ _ _ _ _ h hl
/- numbers -/
def cmpI (x y : Int) : Int := if x < y then -1 else if y < x then 1 else 0
theorem cmpI_neg (x y : Int) : cmpI x y < 0 ↔ x < y := by
  unfold cmpI
  by_cases h : x < y
  · rw [if_pos h]; exact ⟨fun _ => h, fun _ => by decide⟩
  · rw [if_neg h]
    by_cases k : y < x
    · rw [if_pos k]; exact ⟨fun h => absurd h (by decide), fun h => by omega⟩
    · rw [if_neg k]; exact ⟨fun h => absurd h (by decide), fun h => by omega⟩
theorem cmpI_zero (x y : Int) : cmpI x y = 0 ↔ x = y := by
  unfold cmpI
  by_cases h : x < y
  · rw [if_pos h]; exact ⟨fun h => absurd h (by decide), fun h => by omega⟩
  · rw [if_neg h]
    by_cases k : y < x
    · rw [if_pos k]; exact ⟨fun h => absurd h (by decide), fun h => by omega⟩
    · rw [if_neg k]; exact ⟨fun h => by omega, fun _ => rfl⟩
theorem cmpI_bd (x y : Int) : -1 ≤ cmpI x y ∧ cmpI x y ≤ 1 := by
  unfold cmpI
  split
  · exact ⟨by decide, by decide⟩
  · split
    · exact ⟨by decide, by decide⟩
    · exact ⟨by decide, by decide⟩
def cmpS (x y : List UInt8) : Int := if ltL x y then -1 else if ltL y x then 1 else 0
theorem cmpS_bd (x y : List UInt8) : -1 ≤ cmpS x y ∧ cmpS x y ≤ 1 := by
  unfold cmpS
  split
  · exact ⟨by decide, by decide⟩
  · split
    · exact ⟨by decide, by decide⟩
    · exact ⟨by decide, by decide⟩
theorem cmpS_neg (x y : List UInt8) : cmpS x y < 0 ↔ ltL x y = true := by
  unfold cmpS
  by_cases h : ltL x y = true
  · rw [if_pos h]; exact ⟨fun _ => h, fun _ => by decide⟩
  · rw [if_neg h]
    by_cases k : ltL y x = true
    · rw [if_pos k]; exact ⟨fun h => absurd h (by decide), fun e => absurd e h⟩
    · rw [if_neg k]; exact ⟨fun h => absurd h (by decide), fun e => absurd e h⟩
theorem cmpS_zero (x y : List UInt8) : cmpS x y = 0 ↔ x = y := by
  unfold cmpS
  by_cases h : ltL x y = true
  · rw [if_pos h]; exact ⟨fun h => absurd h (by decide), fun e => by rw [e, ltL_irrefl] at h; cases h⟩
  · rw [if_neg h]
    by_cases k : ltL y x = true
    · rw [if_pos k]; exact ⟨fun h => absurd h (by decide), fun e => by rw [e, ltL_irrefl] at k; cases k⟩
    · rw [if_neg k]; exact ⟨fun _ => ltL_tri (by simpa using h) (by simpa using k), fun _ => rfl⟩
theorem isnan_any (x : Int) (w : World) : Calls Try.prog 96 #[.int .i64 x] w fun e w' => e = .returned (.bool false) ∧ w' = w := by
  go_enter Try.func96, Try.ntmps96
  go_wp2_with fail
  go_ret
  exact ⟨rfl, rfl⟩
theorem isnanS_any (x : ByteArray) (w : World) : Calls Try.prog 97 #[.string x] w fun e w' => e = .returned (.bool false) ∧ w' = w := by
  have h0 : (x.toList == x.toList) = true := by simp
  go_enter Try.func97, Try.ntmps97
  go_wp2_with fail
  go_ret
  exact ⟨rfl, rfl⟩
theorem compareI_any (x y : Int) (w : World) : Calls Try.prog 87 #[.int .i64 x, .int .i64 y] w fun e w' => e = .returned (.int .i64 (cmpI x y)) ∧ w' = w := by
  have C1 := Lib.hid (isnan_any x w)
  have C2 := Lib.hid (isnan_any y w)
  by_cases h0 : x < y
  · rw [show cmpI x y = -1 from if_pos h0]
    go_enter Try.func87, Try.ntmps87
    go_wp2_with fail
    refine C1.out.mono ?_
    rintro e w' ⟨rfl, rfl⟩
    go_wp2_with fail
    refine C2.out.mono ?_
    rintro e w' ⟨rfl, rfl⟩
    go_wp2_with fail
    go_ret
    exact ⟨rfl, rfl⟩
  · by_cases h1 : y < x
    · rw [show cmpI x y = 1 by unfold cmpI; rw [if_neg h0, if_pos h1]]
      go_enter Try.func87, Try.ntmps87
      go_wp2_with fail
      refine C1.out.mono ?_
      rintro e w' ⟨rfl, rfl⟩
      go_wp2_with fail
      refine C2.out.mono ?_
      rintro e w' ⟨rfl, rfl⟩
      go_wp2_with fail
      go_ret
      exact ⟨rfl, rfl⟩
    · rw [show cmpI x y = 0 by unfold cmpI; rw [if_neg h0, if_neg h1]]
      go_enter Try.func87, Try.ntmps87
      go_wp2_with fail
      refine C1.out.mono ?_
      rintro e w' ⟨rfl, rfl⟩
      go_wp2_with fail
      refine C2.out.mono ?_
      rintro e w' ⟨rfl, rfl⟩
      go_wp2_with fail
      go_ret
      exact ⟨rfl, rfl⟩
theorem compareS_any (x y : List UInt8) (w : World) : Calls Try.prog 88 #[.string (strB x), .string (strB y)] w fun e w' => e = .returned (.int .i64 (cmpS x y)) ∧ w' = w := by
  have C1 := Lib.hid (isnanS_any (strB x) w)
  have C2 := Lib.hid (isnanS_any (strB y) w)
  obtain ⟨r, HR⟩ : ∃ r, Hid (cmpS x y = r) := ⟨_, rfl⟩
  rw [HR.out]
  have H1 : Hid (ltL x y = Op.bytesLess (strB x).toList (strB y).toList) := by show _ = _; rw [strB_list, strB_list]; rfl
  have H2 : Hid (ltL y x = Op.bytesLess (strB y).toList (strB x).toList) := by show _ = _; rw [strB_list, strB_list]; rfl
  have H3 : Hid (((strB x).toList == (strB y).toList) = (x == y)) := by show _ = _; rw [strB_list, strB_list]
  obtain ⟨s1, HS1⟩ : ∃ s, Hid (strB x = s) := ⟨_, rfl⟩
  obtain ⟨s2, HS2⟩ : ∃ s, Hid (strB y = s) := ⟨_, rfl⟩
  rw [HS1.out, HS2.out] at H1 H2 H3
  rw [HS1.out] at C1 ⊢
  rw [HS2.out] at C2 ⊢
  rcases h0 : ltL x y with _ | _
  · have k0 : Op.bytesLess s1.toList s2.toList = false := by rw [← H1.out]; exact h0
    rcases h1 : ltL y x with _ | _
    · obtain rfl : r = 0 := by rw [← HR.out]; unfold cmpS; rw [h0, h1]; rfl
      have k1 : (s1.toList == s2.toList) = true := by rw [H3.out, ltL_tri h0 h1]; simp
      clear H1 H2 H3 HS1 HS2 HR
      go_enter Try.func88, Try.ntmps88
      go_wp2_with fail
      refine C1.out.mono ?_
      rintro e w' ⟨rfl, rfl⟩
      go_wp2_with fail
      refine C2.out.mono ?_
      rintro e w' ⟨rfl, rfl⟩
      go_wp2_with fail
      go_ret
      exact ⟨rfl, rfl⟩
    · obtain rfl : r = 1 := by rw [← HR.out]; unfold cmpS; rw [h0, h1]; rfl
      have k1 : (s1.toList == s2.toList) = false := by
        rw [H3.out, beq_eq_false_iff_ne]
        intro e
        rw [e, ltL_irrefl] at h1; cases h1
      clear H1 H2 H3 HS1 HS2 HR
      go_enter Try.func88, Try.ntmps88
      go_wp2_with fail
      refine C1.out.mono ?_
      rintro e w' ⟨rfl, rfl⟩
      go_wp2_with fail
      refine C2.out.mono ?_
      rintro e w' ⟨rfl, rfl⟩
      go_wp2_with fail
      go_ret
      exact ⟨rfl, rfl⟩
  · have k0 : Op.bytesLess s1.toList s2.toList = true := by rw [← H1.out]; exact h0
    obtain rfl : r = -1 := by rw [← HR.out]; unfold cmpS; rw [h0]; rfl
    clear H1 H2 H3 HS1 HS2 HR
    go_enter Try.func88, Try.ntmps88
    go_wp2_with fail
    refine C1.out.mono ?_
    rintro e w' ⟨rfl, rfl⟩
    go_wp2_with fail
    refine C2.out.mono ?_
    rintro e w' ⟨rfl, rfl⟩
    go_wp2_with fail
    go_ret
    exact ⟨rfl, rfl⟩
theorem int_at {w : World} {B n : Nat} {A : Option Addr} {xs : List Int} (h : intK.Lie w B A n xs) {k : Nat} (hk : k < n) : ∃ ad, A = some ad ∧ ad.block < B ∧ w.cell? (ad.add k) = some (.int .i64 (xs.getD k 0)) := by
  obtain ⟨ad, e1, e2, e3⟩ := h.each k hk
  have := e3 0 (.int .i64 (xs.getD k 0)) rfl
  rw [add_none, show k * intK.k = k from Nat.mul_one k] at this
  exact ⟨ad, e1, e2, this⟩
/-- The first of some numbers that is not 0. -/
def orI (rs : List Int) : Int := match rs with
  | [] => 0
  | r :: rs => if r ≠ 0 then r else orI rs
theorem orI_at : ∀ {rs : List Int} {j : Nat}, (∀ i, i < j → rs.getD i 0 = 0) → j < rs.length → rs.getD j 0 ≠ 0 → orI rs = rs.getD j 0
  | [], j, _, h, _ => by simp at h
  | r :: rs, 0, _, _, h => by
    unfold orI
    rw [if_pos (by simpa using h)]; rfl
  | r :: rs, j + 1, h0, h1, h2 => by
    have e : r = 0 := h0 0 (by omega)
    unfold orI
    rw [if_neg (by simpa using e), orI_at (rs := rs) (j := j) (fun i hi => by simpa using h0 (i + 1) (by omega)) (by simpa using h1) (by simpa using h2)]
    rfl
theorem orI_none : ∀ {rs : List Int}, (∀ i, i < rs.length → rs.getD i 0 = 0) → orI rs = 0
  | [], _ => rfl
  | r :: rs, h => by
    have e : r = 0 := h 0 (by simp)
    unfold orI
    rw [if_neg (by simpa using e), orI_none (rs := rs) fun i hi => by simpa using h (i + 1) (by simpa using hi)]
set_option maxHeartbeats 2000000 in
theorem or_any (A : Option Addr) (n c : Nat) (rs : List Int) (w : World) (hn : n ≤ 8000) (h : intK.Lie w w.heap.size A n rs) : Calls Try.prog 86 #[.slice A n c] w fun e w' => e = .returned (.int .i64 (orI rs)) ∧ w' = w := by
  have H := Lib.hid h
  clear h
  go_enter Try.func86, Try.ntmps86
  go_wp2_with fail
  go_loopw [8] (fun t8 wr => ∃ j : Nat, t8 = .int .i64 j ∧ j ≤ n ∧ Hid (∀ i, i < j → rs.getD i 0 = 0) ∧ wr = w) (fun t8 _ => n - (intOf t8).toNat)
  case atStart => exact ⟨0, rfl, Nat.zero_le _, fun i hi => absurd hi (Nat.not_lt_zero i), rfl⟩
  case round =>
    obtain ⟨j, rfl, hj, HZ, rfl⟩ := hrel
    by_cases hlt : j < n
    · obtain ⟨ad, rfl, _, c0⟩ := int_at H.out hlt
      obtain ⟨x, HX⟩ : ∃ x, Hid (rs.getD j 0 = x) := ⟨_, rfl⟩
      rw [HX.out] at c0
      have i0 : (0 : Int) ≤ (j : Int) := by omega
      have i1 : (j : Int) < (n : Int) := by omega
      rcases hx : (x != 0) with _ | _
      · have HN : Hid (∀ i, i < j + 1 → rs.getD i 0 = 0) := fun i hi => by
          by_cases e : i = j
          · rw [e, HX.out]; simpa using hx
          · exact HZ.out i (by omega)
        go_wp2_with fail
        go_roundw
        case rel => exact ⟨j + 1, by go_num, by omega, HN, trivial⟩
        case measure => simp [intOf]; omega
      · have HR : Hid (orI rs = x) := by
          rw [← HX.out]
          exact orI_at HZ.out (by rw [H.out.len]; exact hlt) (by rw [HX.out]; simpa using hx)
        go_wp2_with fail
        go_ret
        exact ⟨by rw [HR.out]; rfl, rfl⟩
    · obtain rfl : j = n := by omega
      have HR : Hid (orI rs = 0) := orI_none fun i hi => HZ.out i (by rw [← H.out.len]; exact hi)
      go_wp2_with fail
      go_ret
      exact ⟨by rw [HR.out]; rfl, rfl⟩
def cmpT (a b : Th) : Int := orI [cmpI a.k b.k, cmpS a.d b.d]
theorem cmpT_bd (a b : Th) : -1 ≤ cmpT a b ∧ cmpT a b ≤ 1 := by
  unfold cmpT
  simp only [orI]
  split
  · exact cmpI_bd _ _
  · split
    · exact cmpS_bd _ _
    · exact ⟨by decide, by decide⟩
theorem cmpT_neg (a b : Th) : cmpT a b < 0 ↔ ltT a b := by
  unfold cmpT ltT
  simp only [orI]
  by_cases h1 : cmpI a.k b.k = 0
  · have e1 := (cmpI_zero _ _).1 h1
    rw [if_neg (by simpa using h1)]
    by_cases h2 : cmpS a.d b.d = 0
    · have e2 := (cmpS_zero _ _).1 h2
      rw [if_neg (by simpa using h2), e2, ltL_irrefl]
      exact ⟨fun h => absurd h (by decide), fun h => by rcases h with h | ⟨_, h⟩; omega; cases h⟩
    · rw [if_pos h2, cmpS_neg]
      exact ⟨fun h => Or.inr ⟨e1, h⟩, fun h => by rcases h with h | ⟨_, h⟩; omega; exact h⟩
  · have e1 : ¬ a.k = b.k := fun e => h1 ((cmpI_zero _ _).2 e)
    rw [if_pos h1, cmpI_neg]
    exact ⟨fun h => Or.inl h, fun h => by rcases h with h | ⟨h, _⟩; exact h; exact absurd h e1⟩
theorem cmpT_zero (a b : Th) : cmpT a b = 0 ↔ a = b := by
  unfold cmpT
  simp only [orI]
  by_cases h1 : cmpI a.k b.k = 0
  · have e1 := (cmpI_zero _ _).1 h1
    rw [if_neg (by simpa using h1)]
    by_cases h2 : cmpS a.d b.d = 0
    · have e2 := (cmpS_zero _ _).1 h2
      rw [if_neg (by simpa using h2)]
      exact ⟨fun _ => by cases a; cases b; simp only at e1 e2; rw [e1, e2], fun _ => rfl⟩
    · rw [if_pos h2]
      exact ⟨fun h => absurd h h2, fun h => absurd (by rw [h]; exact (cmpS_zero _ _).2 rfl) h2⟩
  · rw [if_pos h1]
    exact ⟨fun h => absurd h h1, fun h => absurd (by rw [h]; exact (cmpI_zero _ _).2 rfl) h1⟩
theorem lie_lit {α : Type} (K : Kind α) (W : World) (vs : List α) (hw : ∀ v ∈ vs, K.wf v) (cs : Array Value) (hcs : cs = (K.cells vs).toArray) (n : Nat) (hn : vs.length = n) : K.Lie (W.alloc (.cells cs K.T)) (W.alloc (.cells cs K.T)).heap.size (some ⟨W.heap.size, 0, none⟩) n vs := by
  subst hcs
  refine Kind.lie_of hn hw (by simp) fun j u hu => ?_
  rw [cell_new]; simpa using hu
theorem run_load_i (p : Addr) (z : Int) (w : World) (hc : w.cell? p = some (.int .i64 z)) : (Instr.loadAt 3 (.pointer (some p))).run Try.prog w = .ok (.int .i64 z) w := by go_simp
theorem run_load_s (p : Addr) (s : ByteArray) (w : World) (hc : w.cell? p = some (.string s)) : (Instr.loadAt 9 (.pointer (some p))).run Try.prog w = .ok (.string s) w := by go_simp
theorem run_build_i2 (p q : Int) (w : World) : (Instr.buildSlice 56 2 #[(0, .int .i64 p), (1, .int .i64 q)]).run Try.prog w = .ok (.slice (some ⟨w.heap.size, 0, none⟩) 2 2) (w.alloc (.cells #[.int .i64 p, .int .i64 q] 3)) := by go_simp
/-- The two comparisons are laid in a row. -/
structure CmpJ (WD : World) (rs : List Int) (fs : List Bool) (vs : List Value) (W : World) : Prop where
  lf : fs.length = 1
  lv : vs.length = 1
  gro : Gro WD W
  row : fs.getD 0 false = true → ∃ A, vs.getD 0 undef = .slice A 2 2 ∧ intK.Lie W W.heap.size A 2 rs
section
variable {WD W W' : World} {rs : List Int} {fs : List Bool} {vs : List Value}
theorem CmpJ.later (h : CmpJ WD rs fs vs W) (hl : Gro W W') : CmpJ WD rs fs vs W' :=
  ⟨h.lf, h.lv, h.gro.trans hl, fun e => by
    obtain ⟨A, h1, h2⟩ := h.row e
    exact ⟨A, h1, h2.since hl.later⟩⟩
theorem CmpJ.build (h : CmpJ WD rs fs vs W) {p q : Int} (hr : rs = [p, q]) (hwf : ∀ v ∈ rs, intK.wf v) : CmpJ WD rs (fs.set 0 true) (vs.set 0 (.slice (some ⟨W.heap.size, 0, none⟩) 2 2)) (W.alloc (.cells #[.int .i64 p, .int .i64 q] 3)) := by
  have lf := h.lf
  have lv := h.lv
  subst hr
  exact ⟨by simpa using lf, by simpa using lv, h.gro.trans (gro_alloc _ _), fun _ => ⟨_, gs_self (by omega), lie_lit intK W [p, q] hwf _ rfl 2 rfl⟩⟩
theorem CmpJ.start (hv : vs.length = 1) : CmpJ WD rs [false] vs WD := ⟨rfl, hv, gro_refl _, fun e => (by cases e)⟩
end
theorem ThAt.since {w w' : World} {p : Addr} {t : Th} (h : ThAt w p t) (hl : Later w w') (hp : p.block < w.heap.size) : ThAt w' p t :=
  ⟨(hl.cell hp).trans h.c0, (hl.cell (p := ⟨p.block, p.off + 1, none⟩) hp).trans h.c1⟩
set_option maxRecDepth 20000 in
set_option maxHeartbeats 4000000 in
theorem compare_gro (x y : Th) (w : World) : Calls Try.prog 69 #[thV x, thV y] w fun e w' => e = .returned (.int .i64 (cmpT x y)) ∧ Gro w w' := by
  obtain ⟨z, HZ⟩ : ∃ z, Hid (cmpT x y = z) := ⟨_, rfl⟩
  obtain ⟨r1, H1⟩ : ∃ r, Hid (cmpI x.k y.k = r) := ⟨_, rfl⟩
  obtain ⟨r2, H2⟩ : ∃ r, Hid (cmpS x.d y.d = r) := ⟨_, rfl⟩
  have HOR : Hid (orI [r1, r2] = z) := by show _ = _; rw [← HZ.out, ← H1.out, ← H2.out]; rfl
  have HWF : Hid (∀ v ∈ [r1, r2], intK.wf v) := by
    have b1 := cmpI_bd x.k y.k; rw [H1.out] at b1
    have b2 := cmpS_bd x.d y.d; rw [H2.out] at b2
    intro v hv
    simp only [List.mem_cons, List.not_mem_nil, or_false] at hv
    rcases hv with rfl | rfl
    · exact ⟨by omega, by omega⟩
    · exact ⟨by omega, by omega⟩
  rw [HZ.out]
  obtain ⟨W2, HW2⟩ : ∃ W, Hid (W = (w.alloc (.cells (thCells x).toArray 85)).alloc (.cells (thCells y).toArray 85)) := ⟨_, rfl⟩
  have HG2 : Hid (Gro w W2) := by show Gro _ _; rw [HW2.out]; exact (gro_alloc _ _).trans (gro_alloc _ _)
  have hs1 : (w.alloc (.cells (thCells x).toArray 85)).heap.size = w.heap.size + 1 := by simp
  obtain ⟨g1, HG1⟩ : ∃ g, Hid (w.heap.size = g) := ⟨_, rfl⟩
  obtain ⟨g3, HG3⟩ : ∃ g, Hid (w.heap.size + 1 = g) := ⟨_, rfl⟩
  have hs2 : W2.heap.size = w.heap.size + 2 := by rw [HW2.out]; simp
  have HX : Hid (ThAt W2 ⟨g1, 0, none⟩ x) := by
    rw [← HG1.out, HW2.out]
    exact ThAt.since (th_new w x _ rfl _) ((Below.refl _ _).alloc (Nat.le_refl _) _) (by rw [hs1]; show w.heap.size < _; omega)
  have HY : Hid (ThAt W2 ⟨g3, 0, none⟩ y) := by
    have := th_new (w.alloc (.cells (thCells x).toArray 85)) y _ rfl 85
    rw [hs1] at this
    rw [← HG3.out, HW2.out]
    exact this
  have HPX : Hid (g1 < W2.heap.size) := by show _ < _; rw [hs2, ← HG1.out]; omega
  have HPY : Hid (g3 < W2.heap.size) := by show _ < _; rw [hs2, ← HG3.out]; omega
  clear hs1 hs2
  obtain ⟨xk, xd⟩ := x
  obtain ⟨yk, yd⟩ := y
  have HC1 : Hid (∀ W, Calls Try.prog 87 #[.int .i64 xk, .int .i64 yk] W fun e w' => e = .returned (.int .i64 r1) ∧ w' = W) := fun W => by have := compareI_any xk yk W; rw [show cmpI xk yk = _ from H1.out] at this; exact this
  have HC2 : Hid (∀ W, Calls Try.prog 88 #[.string (strB xd), .string (strB yd)] W fun e w' => e = .returned (.int .i64 r2) ∧ w' = W) := fun W => by have := compareS_any xd yd W; rw [show cmpS xd yd = _ from H2.out] at this; exact this
  obtain ⟨sx, HSX⟩ : ∃ s, Hid (strB xd = s) := ⟨_, rfl⟩
  obtain ⟨sy, HSY⟩ : ∃ s, Hid (strB yd = s) := ⟨_, rfl⟩
  have hx1 := HX.out.c0; have hx2 := HX.out.c1
  have hy1 := HY.out.c0; have hy2 := HY.out.c1
  simp only at hx1 hx2 hy1 hy2
  rw [HSX.out] at hx2
  rw [HSY.out] at hy2
  rw [HSX.out, HSY.out] at HC2
  have LX1 := Lib.hid hx1; have LX2 : Hid (W2.cell? ⟨g1, 1, none⟩ = some (.string sx)) := hx2
  have LY1 := Lib.hid hy1; have LY2 : Hid (W2.cell? ⟨g3, 1, none⟩ = some (.string sy)) := hy2
  clear hx1 hx2 hy1 hy2 HX HY
  show Calls _ _ #[.agg #[.int .i64 xk, .string (strB xd)], .agg #[.int .i64 yk, .string (strB yd)]] _ _
  rw [HSX.out, HSY.out]
  have HW3 : Hid ((w.alloc (.cells #[.int .i64 xk, .string sx] 85)).alloc (.cells #[.int .i64 yk, .string sy] 85) = W2) := by show _ = _; rw [HW2.out, ← HSX.out, ← HSY.out]; rfl
  clear HW2
  go_enter Try.func69, Try.ntmps69
  go_wp2_with fail
  rw [HW3.out, HG3.out, HG1.out]
  obtain ⟨WD, HWD⟩ : ∃ W, Hid (W = W2.drew) := ⟨_, rfl⟩
  have HDG : Hid (Gro W2 WD) := by show Gro _ _; rw [HWD.out]; exact gro_drew _
  have KX1 : Hid (WD.cell? ⟨g1, 0, none⟩ = some (.int .i64 xk)) := (HDG.out.later.cell (p := ⟨g1, 0, none⟩) HPX.out).trans LX1.out
  have KX2 : Hid (WD.cell? ⟨g1, 1, none⟩ = some (.string sx)) := (HDG.out.later.cell (p := ⟨g1, 1, none⟩) HPX.out).trans LX2.out
  have KY1 : Hid (WD.cell? ⟨g3, 0, none⟩ = some (.int .i64 yk)) := (HDG.out.later.cell (p := ⟨g3, 0, none⟩) HPY.out).trans LY1.out
  have KY2 : Hid (WD.cell? ⟨g3, 1, none⟩ = some (.string sy)) := (HDG.out.later.cell (p := ⟨g3, 1, none⟩) HPY.out).trans LY2.out
  have HPXD : Hid (g1 < WD.heap.size) := Nat.lt_of_lt_of_le HPX.out HDG.out.later.size
  have HPYD : Hid (g3 < WD.heap.size) := Nat.lt_of_lt_of_le HPY.out HDG.out.later.size
  refine region_of_steps7 (by kernel_rfl) [some (.pointer (some ⟨g1, 0, none⟩)), some (.int .i64 xk), some (.pointer (some ⟨g3, 0, none⟩)), some (.int .i64 yk), some (.int .i64 r1), some (.pointer (some ⟨g1, 1, none⟩)), some (.string sx), some (.pointer (some ⟨g3, 1, none⟩)), some (.string sy), some (.int .i64 r2), none, some (.int .i64 z), some (.int .i64 z)] [10] [15] (CmpJ WD [r1, r2]) (by kernel_rfl) (by kernel_rfl) (by show CmpJ WD [r1, r2] [false] _ _; rw [← HWD.out]; exact CmpJ.start (by rw [slots_len]; rfl)) ?_ ?_
  · refine Steps7.cons ?_ (Steps7.cons ?_ (Steps7.cons ?_ (Steps7.cons ?_ (Steps7.cons ?_ (Steps7.cons ?_ (Steps7.cons ?_ (Steps7.cons ?_ (Steps7.cons ?_ (Steps7.cons ?_ (Steps7.cons ?_ (Steps7.cons ?_ (Steps7.cons ?_ (Steps7.nil)))))))))))))
    · intro listed a W H hj hl hd
      have t2 : a.tmps.getD 2 undef = .pointer (some ⟨g1, 0, none⟩) := (H.old 2 (by kernel_rfl)).trans rfl
      exact step7_value (i := 0) rfl rfl (run_op_fieldAddr rfl t2 (by go_simp)) (calm7g (fun fs vs x y h hl => CmpJ.later h hl) (by kernel_rfl) (by kernel_rfl) hj (gro_refl _)) rfl
    · intro listed a W H hj hl hd
      have t5 : a.tmps.getD 5 undef = .pointer (some ⟨g1, 0, none⟩) := H.get 0 5 (by kernel_rfl) (dep_of hd 0 (by kernel_rfl)) (fun _ h => by cases h)
      exact step7_value (i := 1) rfl rfl (run_op_load rfl t5 (run_load_i _ _ W ((hj.gro.later.cell (p := ⟨g1, 0, none⟩) HPXD.out).trans KX1.out))) (calm7g (fun fs vs x y h hl => CmpJ.later h hl) (by kernel_rfl) (by kernel_rfl) hj (gro_refl _)) rfl
    · intro listed a W H hj hl hd
      have t3 : a.tmps.getD 3 undef = .pointer (some ⟨g3, 0, none⟩) := (H.old 3 (by kernel_rfl)).trans rfl
      exact step7_value (i := 2) rfl rfl (run_op_fieldAddr rfl t3 (by go_simp)) (calm7g (fun fs vs x y h hl => CmpJ.later h hl) (by kernel_rfl) (by kernel_rfl) hj (gro_refl _)) rfl
    · intro listed a W H hj hl hd
      have t7 : a.tmps.getD 7 undef = .pointer (some ⟨g3, 0, none⟩) := H.get 2 7 (by kernel_rfl) (dep_of hd 2 (by kernel_rfl)) (fun _ h => by cases h)
      exact step7_value (i := 3) rfl rfl (run_op_load rfl t7 (run_load_i _ _ W ((hj.gro.later.cell (p := ⟨g3, 0, none⟩) HPYD.out).trans KY1.out))) (calm7g (fun fs vs x y h hl => CmpJ.later h hl) (by kernel_rfl) (by kernel_rfl) hj (gro_refl _)) rfl
    · intro listed a W H hj hl hd
      have t6 : a.tmps.getD 6 undef = .int .i64 xk := H.get 1 6 (by kernel_rfl) (dep_of hd 1 (by kernel_rfl)) (fun _ h => by cases h)
      have t8 : a.tmps.getD 8 undef = .int .i64 yk := H.get 3 8 (by kernel_rfl) (dep_of hd 3 (by kernel_rfl)) (fun _ h => by cases h)
      refine step7_call (i := 4) rfl rfl (run_op_call (vs := #[.int .i64 xk, .int .i64 yk]) Try.func87 (by kernel_rfl) (by kernel_rfl) rfl (by simp only [List.map_toArray, List.map_cons, List.map_nil]; show (#[a.tmps.getD 6 undef, a.tmps.getD 8 undef] : Array Value) = _; rw [t6, t8])) ?_
      exact (HC1.out W).mono fun e w' hq => ⟨_, hq.1, (by rw [hq.2]; exact (calm7g (fun fs vs x y h hl => CmpJ.later h hl) (by kernel_rfl) (by kernel_rfl) hj (gro_refl _))), rfl⟩
    · intro listed a W H hj hl hd
      have t2 : a.tmps.getD 2 undef = .pointer (some ⟨g1, 0, none⟩) := (H.old 2 (by kernel_rfl)).trans rfl
      exact step7_value (i := 5) rfl rfl (run_op_fieldAddr rfl t2 (by go_simp)) (calm7g (fun fs vs x y h hl => CmpJ.later h hl) (by kernel_rfl) (by kernel_rfl) hj (gro_refl _)) rfl
    · intro listed a W H hj hl hd
      have t10 : a.tmps.getD 10 undef = .pointer (some ⟨g1, 1, none⟩) := H.get 5 10 (by kernel_rfl) (dep_of hd 5 (by kernel_rfl)) (fun _ h => by cases h)
      exact step7_value (i := 6) rfl rfl (run_op_load rfl t10 (run_load_s _ _ W ((hj.gro.later.cell (p := ⟨g1, 1, none⟩) HPXD.out).trans KX2.out))) (calm7g (fun fs vs x y h hl => CmpJ.later h hl) (by kernel_rfl) (by kernel_rfl) hj (gro_refl _)) rfl
    · intro listed a W H hj hl hd
      have t3 : a.tmps.getD 3 undef = .pointer (some ⟨g3, 0, none⟩) := (H.old 3 (by kernel_rfl)).trans rfl
      exact step7_value (i := 7) rfl rfl (run_op_fieldAddr rfl t3 (by go_simp)) (calm7g (fun fs vs x y h hl => CmpJ.later h hl) (by kernel_rfl) (by kernel_rfl) hj (gro_refl _)) rfl
    · intro listed a W H hj hl hd
      have t12 : a.tmps.getD 12 undef = .pointer (some ⟨g3, 1, none⟩) := H.get 7 12 (by kernel_rfl) (dep_of hd 7 (by kernel_rfl)) (fun _ h => by cases h)
      exact step7_value (i := 8) rfl rfl (run_op_load rfl t12 (run_load_s _ _ W ((hj.gro.later.cell (p := ⟨g3, 1, none⟩) HPYD.out).trans KY2.out))) (calm7g (fun fs vs x y h hl => CmpJ.later h hl) (by kernel_rfl) (by kernel_rfl) hj (gro_refl _)) rfl
    · intro listed a W H hj hl hd
      have t11 : a.tmps.getD 11 undef = .string sx := H.get 6 11 (by kernel_rfl) (dep_of hd 6 (by kernel_rfl)) (fun _ h => by cases h)
      have t13 : a.tmps.getD 13 undef = .string sy := H.get 8 13 (by kernel_rfl) (dep_of hd 8 (by kernel_rfl)) (fun _ h => by cases h)
      refine step7_call (i := 9) rfl rfl (run_op_call (vs := #[.string sx, .string sy]) Try.func88 (by kernel_rfl) (by kernel_rfl) rfl (by simp only [List.map_toArray, List.map_cons, List.map_nil]; show (#[a.tmps.getD 11 undef, a.tmps.getD 13 undef] : Array Value) = _; rw [t11, t13])) ?_
      exact (HC2.out W).mono fun e w' hq => ⟨_, hq.1, (by rw [hq.2]; exact (calm7g (fun fs vs x y h hl => CmpJ.later h hl) (by kernel_rfl) (by kernel_rfl) hj (gro_refl _))), rfl⟩
    · intro listed a W H hj hl hd
      have t9 : a.tmps.getD 9 undef = .int .i64 r1 := H.get 4 9 (by kernel_rfl) (dep_of hd 4 (by kernel_rfl)) (fun _ h => by cases h)
      have t14 : a.tmps.getD 14 undef = .int .i64 r2 := H.get 9 14 (by kernel_rfl) (dep_of hd 9 (by kernel_rfl)) (fun _ h => by cases h)
      have hk9 := hj.build (p := r1) (q := r2) rfl HWF.out
      rw [← flags_put (m := 10) 0 rfl (by decide), ← slots_at (a := a) (d := 15) 0 rfl (by decide) (by rw [H.size]; exact of_decide_eq_true (by kernel_rfl))] at hk9
      exact step7_value (i := 10) rfl rfl (run_op_build rfl (by simp only [List.map_toArray, List.map_cons, List.map_nil]; show (Instr.buildSlice 56 2 #[(0, a.tmps.getD 9 undef), (1, a.tmps.getD 14 undef)]).run _ _ = _; rw [t9, t14]; exact run_build_i2 _ _ W)) hk9 trivial
    · intro listed a W H hj hl hd
      have d15 : listed.getD 10 false = true := dep_of hd 10 (by kernel_rfl)
      refine step7_call (i := 11) rfl rfl (run_op_call (vs := #[a.tmps.getD 15 undef]) Try.func86 (by kernel_rfl) (by kernel_rfl) rfl (by simp only [List.map_toArray, List.map_cons, List.map_nil]; show (#[a.tmps.getD 15 undef] : Array Value) = _; rfl)) ?_
      obtain ⟨A9, e9, r9⟩ := hj.row (done_true (dep_of hd 10 (by kernel_rfl)))
      have e9b : a.tmps.getD 15 undef = .slice A9 2 2 := e9
      rw [e9b]
      have CQ := or_any A9 2 2 _ W (by omega) r9
      rw [HOR.out] at CQ
      exact CQ.mono fun e w' hq => ⟨_, hq.1, (by rw [hq.2]; exact (calm7g (fun fs vs x y h hl => CmpJ.later h hl) (by kernel_rfl) (by kernel_rfl) hj (gro_refl _))), rfl⟩
    · intro listed a W H hj hl hd
      have t16 : a.tmps.getD 16 undef = .int .i64 z := H.get 11 16 (by kernel_rfl) (dep_of hd 11 (by kernel_rfl)) (fun _ h => by cases h)
      exact step7_value (i := 12) rfl rfl (run_op_assign rfl t16) (calm7g (fun fs vs x y h hl => CmpJ.later h hl) (by kernel_rfl) (by kernel_rfl) hj (gro_refl _)) rfl
  · intro a WC hdef hsz hw hall hact
    obtain ⟨u, hu⟩ : ∃ u : Nat → Value, ∀ k, a.tmps.getD k undef = u k := ⟨_, fun _ => rfl⟩
    have h4 : u 4 = .int .i64 z := by rw [← hu]; exact hall 12 _ rfl
    simp only [hu] at hact
    have hact' : a = ([5, 6, 7, 8, 9, 10, 11, 12, 13, 14, 15, 16, 4] : List Nat).foldl (fun b k => b.put (some k) (u k)) _ := hact
    simp only [List.foldl] at hact'
    simp only [Act.put, List.setIfInBounds_toArray, List.set_cons_succ, List.set_cons_zero] at hact'
    have HAC := Lib.hid hact'
    have HX := Lib.hid hw
    clear hact hact' hall hdef hsz hw
    rw [h4] at HAC
    rw [HAC.out]
    have HE9 := Lib.hid ((HG2.out.trans HDG.out).trans HX.out.gro)
    clear HX
    go_wp2_with fail
    go_ret
    exact ⟨rfl, HE9.out⟩
end Go.Proofs.Ytfidamiomnohcaa
