/- The document's own wear: the order, the least and the most worn, the spread. Conditions: the lists' cells; at most 100 blocks. -/
import Derived.Test.YtggijifealljiaaWearMath
import Derived.Test.YtggijifealljiaaRunBin
import Derived.Test.YtggijifealljiaaChain
import Derived.Test.YtggijifealljiaaIntsShared
import Derived.Test.YtggijifealljiaaBools
import Derived.Test.YtggijifealljiaaGives
set_option linter.unusedVariables false
set_option linter.unusedSimpArgs false
namespace Go.Proofs.Ytggijifealljiaa
open Go.RowKit

theorem bool_at {w : World} {B n : Nat} {A : Option Addr} {xs : List Bool} (h : boolK.Lie w B A n xs) {k : Nat} (hk : k < n) : ∃ ad, A = some ad ∧ ad.block < B ∧ w.cell? (ad.add k) = some (.bool (xs.getD k false)) := by
  obtain ⟨ad, e1, e2, e3⟩ := h.each k hk
  have := boolK_at (b := xs.getD k false) e3
  rw [show k * boolK.k = k from Nat.mul_one k] at this
  exact ⟨ad, e1, e2, this⟩
/-- Both lists. -/
structure Two2 (w : World) (A : Option Addr) (n : Nat) (ws : List Int) (A' : Option Addr) (m : Nat) (cs : List Bool) : Prop where
  a : intK.Lie w w.heap.size A n ws
  b : boolK.Lie w w.heap.size A' m cs
theorem Two2.since {w w' : World} {A A' : Option Addr} {n m : Nat} {ws : List Int} {cs : List Bool} (h : Two2 w A n ws A' m cs) (hb : Below w.heap.size w w') : Two2 w' A n ws A' m cs := ⟨h.a.since hb, h.b.since hb⟩
theorem refworn_any (x : Int) (w : World) : Calls Try.prog 27 #[.int .i64 x] w fun e w' => e = .returned (.int .i64 (wornM x)) ∧ w = w' := by
  by_cases h0 : x < 0
  · rw [show wornM x = 0 from if_pos (Or.inl h0)]
    go_enter Try.func27, Try.ntmps27
    go_wp2_with fail
    go_ret
    exact ⟨rfl, rfl⟩
  by_cases h1 : 1073741824 < x
  · rw [show wornM x = 0 from if_pos (Or.inr h1)]
    go_enter Try.func27, Try.ntmps27
    go_wp2_with fail
    go_ret
    exact ⟨rfl, rfl⟩
  · rw [show wornM x = x from if_neg (by omega)]
    go_enter Try.func27, Try.ntmps27
    go_wp2_with fail
    go_ret
    exact ⟨rfl, rfl⟩
/-- An order as numbers. -/
def oI (o : List Nat) : List Int := o.map fun (k : Nat) => (k : Int)
theorem oI_at {o : List Nat} {k : Nat} (hk : k < o.length) : (oI o).getD k 0 = ((o.getD k 0 : Nat) : Int) := by
  unfold oI
  rw [List.getD_eq_getElem?_getD, List.getElem?_map, List.getD_eq_getElem?_getD, List.getElem?_eq_getElem hk]; rfl
theorem oI_len {o : List Nat} : (oI o).length = o.length := by simp [oI]
theorem order_len_le {ws : List Int} {cs : List Bool} : ∀ n, (orderN ws cs n).length ≤ n
  | 0 => Nat.le_refl _
  | n + 1 => by
    unfold orderN
    have ih := order_len_le (ws := ws) (cs := cs) n
    have hl : ∀ (i : Nat) (o : List Nat), (insW ws i o).length = o.length + 1 := fun i o => by
      induction o with
      | nil => rfl
      | cons a l ih => unfold insW; split <;> simp [ih]
    split
    · rw [hl]; omega
    · omega
theorem run_index_i (ad : Addr) (n c k : Nat) (hk : k < n) (w : World) : (Instr.indexAt 22 (.slice (some ad) n c) (.int .i64 (k : Int))).run Try.prog w = .ok (.pointer (some (ad.add k))) w := by
  have i0 : (0 : Int) ≤ (k : Int) := by omega
  have i1 : (k : Int) < (n : Int) := by omega
  go_simp
theorem run_load_int (p : Addr) (z : Int) (w : World) (hc : w.cell? p = some (.int .i64 z)) : (Instr.loadAt 3 (.pointer (some p))).run Try.prog w = .ok (.int .i64 z) w := by go_simp
theorem run_build_int (x : Int) (w : World) : (Instr.buildSlice 22 1 #[(0, .int .i64 x)]).run Try.prog w = .ok (.slice (some ⟨w.heap.size, 0, none⟩) 1 1) (w.alloc (.cells #[.int .i64 x] 3)) := by go_simp
/-- Nothing that was there has turned. -/
def LaterJ (WD : World) (_ : List Bool) (_ : List Value) (W : World) : Prop := Below WD.heap.size WD W
theorem laterJ_later {WD : World} (fs : List Bool) (vs : List Value) (x y : World) (h : LaterJ WD fs vs x) (hl : Later x y) : LaterJ WD fs vs y := below_chain h hl
/-- The three appends of one insertion. -/
structure InsJ (WD : World) (k m : Nat) (o : List Nat) (x : Int) (fs : List Bool) (vs : List Value) (W : World) : Prop where
  lf : fs.length = 5
  lv : vs.length = 5
  asg : fs.getD 4 false = true → vs.getD 4 undef = vs.getD 3 undef
  below : Below WD.heap.size WD W
  lit : fs.getD 1 false = true → fs.getD 2 false = false → ∃ gb, vs.getD 1 undef = .slice (some ⟨gb, 0, none⟩) 1 1 ∧ intK.Lie W W.heap.size (some ⟨gb, 0, none⟩) 1 [x]
  a1 : fs.getD 0 false = true → fs.getD 2 false = false → ∃ A c, vs.getD 0 undef = .slice A k c ∧ intK.Row W WD.heap.size A k c (oI (o.take k))
  a2 : fs.getD 2 false = true → fs.getD 3 false = false → ∃ A c, vs.getD 2 undef = .slice A (k + 1) c ∧ intK.Row W WD.heap.size A (k + 1) c (oI (o.take k) ++ [x])
  a3 : fs.getD 3 false = true → ∃ A c, vs.getD 3 undef = .slice A (m + 1) c ∧ intK.Row W WD.heap.size A (m + 1) c ((oI (o.take k) ++ [x]) ++ oI (o.drop k))
section
variable {WD W W' : World} {k m : Nat} {o : List Nat} {x : Int} {fs : List Bool} {vs : List Value}
theorem InsJ.later (h : InsJ WD k m o x fs vs W) (hl : Later W W') : InsJ WD k m o x fs vs W' :=
  ⟨h.lf, h.lv, h.asg, below_chain h.below hl, fun h1 h2 => by
    obtain ⟨gb, h3, h4⟩ := h.lit h1 h2
    exact ⟨gb, h3, h4.since hl⟩, fun h1 h2 => by
    obtain ⟨A, c, h3, h4⟩ := h.a1 h1 h2
    exact ⟨A, c, h3, h4.since hl⟩, fun h1 h2 => by
    obtain ⟨A, c, h3, h4⟩ := h.a2 h1 h2
    exact ⟨A, c, h3, h4.since hl⟩, fun h1 => by
    obtain ⟨A, c, h3, h4⟩ := h.a3 h1
    exact ⟨A, c, h3, h4.since hl⟩⟩
theorem InsJ.first (h : InsJ WD k m o x fs vs W) (h2 : fs.getD 2 false = false) {A : Option Addr} {c : Nat} (hA : intK.Lie WD WD.heap.size A k (oI (o.take k))) (hk : k ≤ 8000) :
    ∃ A2 c2 W2, (Builtin.append_ #[22, 22] 22 #[.slice none 0 0, .slice A k c]).run Try.prog W = .ok (.slice A2 k c2) W2 ∧ InsJ WD k m o x (fs.set 0 true) (vs.set 0 (.slice A2 k c2)) W2 := by
  have lf := h.lf
  have lv := h.lv
  obtain ⟨A2, c2, W2, hr, ho, hg⟩ := Kind.append_b (K := intK) (base := WD.heap.size) (c' := c) h.below.size (Kind.Row.none_ (K := intK)) ((hA.below h.below).wider h.below.size) (by omega)
  rw [Nat.zero_add] at hr ho
  have hl : Later W W2 := (Below.refl _ _).grown hg (Nat.le_refl _) (fun b hb => by cases hb)
  have h' := h.later hl
  refine ⟨A2, c2, W2, hr, by simpa using lf, by simpa using lv, fun e => (by rw [gs_ne (by decide)] at e; rw [gs_ne (by decide), gs_ne (by decide)]; exact h.asg e), h'.below, fun e1 e2 => ?_, fun _ _ => ⟨A2, c2, gs_self (by omega), by simpa using ho⟩, fun e1 e2 => ?_, fun e1 => ?_⟩
  · rw [gs_ne (by decide)] at e1 e2; rw [gs_ne (by decide)]; exact h'.lit e1 e2
  · rw [gs_ne (by decide), h2] at e1; cases e1
  · rw [gs_ne (by decide)] at e1; rw [gs_ne (by decide)]; exact h'.a3 e1
theorem InsJ.build (h : InsJ WD k m o x fs vs W) (h2 : fs.getD 2 false = false) (hx : intK.wf x) : InsJ WD k m o x (fs.set 1 true) (vs.set 1 (.slice (some ⟨W.heap.size, 0, none⟩) 1 1)) (W.alloc (.cells #[.int .i64 x] 3)) := by
  have lf := h.lf
  have lv := h.lv
  have h' := h.later ((Below.refl _ _).alloc (Nat.le_refl _) (.cells #[.int .i64 x] 3))
  refine ⟨by simpa using lf, by simpa using lv, fun e => (by rw [gs_ne (by decide)] at e; rw [gs_ne (by decide), gs_ne (by decide)]; exact h.asg e), h'.below, fun _ _ => ⟨W.heap.size, gs_self (by omega), Kind.new1 (K := intK) W x hx _ rfl⟩, fun e1 e2 => ?_, fun e1 e2 => ?_, fun e1 => ?_⟩
  · rw [gs_ne (by decide)] at e1 e2; rw [gs_ne (by decide)]; exact h'.a1 e1 e2
  · rw [gs_ne (by decide), h2] at e1; cases e1
  · rw [gs_ne (by decide)] at e1; rw [gs_ne (by decide)]; exact h'.a3 e1
theorem InsJ.second (h : InsJ WD k m o x fs vs W) (h0 : fs.getD 0 false = true) (h1 : fs.getD 1 false = true) (h2 : fs.getD 2 false = false) (h3 : fs.getD 3 false = false) (hk : k + 1 ≤ 8000) :
    ∃ A2 c2 W2, (Builtin.append_ #[22, 22] 22 #[vs.getD 0 undef, vs.getD 1 undef]).run Try.prog W = .ok (.slice A2 (k + 1) c2) W2 ∧ InsJ WD k m o x (fs.set 2 true) (vs.set 2 (.slice A2 (k + 1) c2)) W2 := by
  have lf := h.lf
  have lv := h.lv
  obtain ⟨A, c, e1, r1⟩ := h.a1 h0 h2
  obtain ⟨gb, e2, r2⟩ := h.lit h1 h2
  obtain ⟨A2, c2, W2, hr, ho, hg⟩ := Kind.append_b (K := intK) (base := WD.heap.size) (c' := 1) h.below.size r1 r2 hk
  have hb : Below WD.heap.size WD W2 := h.below.grown hg h.below.size fun b hb => (r1.row.lt b hb).1
  refine ⟨A2, c2, W2, by rw [e1, e2]; exact hr, by simpa using lf, by simpa using lv, fun e => (by rw [gs_ne (by decide)] at e; rw [gs_ne (by decide), gs_ne (by decide)]; exact h.asg e), hb, fun _ e => ?_, fun _ e => ?_, fun _ _ => ⟨A2, c2, gs_self (by omega), ho⟩, fun e => ?_⟩
  · rw [gs_self (by omega)] at e; cases e
  · rw [gs_self (by omega)] at e; cases e
  · rw [gs_ne (by decide), h3] at e; cases e
theorem InsJ.third (h : InsJ WD k m o x fs vs W) (h2 : fs.getD 2 false = true) (h3 : fs.getD 3 false = false) (h4 : fs.getD 4 false = false) {A : Option Addr} {c : Nat} (hkm : k ≤ m) (hA : intK.Lie WD WD.heap.size A (m - k) (oI (o.drop k))) (hm : m + 1 ≤ 8000) :
    ∃ A2 c2 W2, (Builtin.append_ #[22, 22] 22 #[vs.getD 2 undef, .slice A (m - k) c]).run Try.prog W = .ok (.slice A2 (m + 1) c2) W2 ∧ InsJ WD k m o x (fs.set 3 true) (vs.set 3 (.slice A2 (m + 1) c2)) W2 := by
  have lf := h.lf
  have lv := h.lv
  obtain ⟨A1, c1, e1, r1⟩ := h.a2 h2 h3
  obtain ⟨A2, c2, W2, hr, ho, hg⟩ := Kind.append_b (K := intK) (base := WD.heap.size) (c' := c) h.below.size r1 ((hA.below h.below).wider h.below.size) (by omega)
  rw [show k + 1 + (m - k) = m + 1 by omega] at hr ho
  have hb : Below WD.heap.size WD W2 := h.below.grown hg h.below.size fun b hb => (r1.row.lt b hb).1
  refine ⟨A2, c2, W2, by rw [e1]; exact hr, by simpa using lf, by simpa using lv, fun e => (by rw [gs_ne (by decide), h4] at e; cases e), hb, fun e1 e => ?_, fun e1 e => ?_, fun _ e => ?_, fun _ => ⟨A2, c2, gs_self (by omega), ho⟩⟩
  · rw [gs_ne (by decide), h2] at e; cases e
  · rw [gs_ne (by decide), h2] at e; cases e
  · rw [gs_self (by omega)] at e; cases e
theorem InsJ.assign (h : InsJ WD k m o x fs vs W) : InsJ WD k m o x (fs.set 4 true) (vs.set 4 (vs.getD 3 undef)) W := by
  have lf := h.lf
  have lv := h.lv
  refine ⟨by simpa using lf, by simpa using lv, fun _ => by rw [gs_self (by omega), gs_ne (by decide)], h.below, fun e1 e2 => ?_, fun e1 e2 => ?_, fun e1 e2 => ?_, fun e1 => ?_⟩
  · rw [gs_ne (by decide)] at e1 e2; rw [gs_ne (by decide)]; exact h.lit e1 e2
  · rw [gs_ne (by decide)] at e1 e2; rw [gs_ne (by decide)]; exact h.a1 e1 e2
  · rw [gs_ne (by decide)] at e1 e2; rw [gs_ne (by decide)]; exact h.a2 e1 e2
  · rw [gs_ne (by decide)] at e1; rw [gs_ne (by decide)]; exact h.a3 e1
theorem InsJ.start (hv : vs.length = 5) : InsJ WD k m o x [false, false, false, false, false] vs WD :=
  ⟨rfl, hv, fun e => (by cases e), Below.refl _ _, fun e => (by cases e), fun e => (by cases e), fun e => (by cases e), fun e => (by cases e)⟩
end
theorem oI_append (a b : List Nat) : oI (a ++ b) = oI a ++ oI b := by unfold oI; rw [List.map_append]
theorem oI_take (o : List Nat) (k : Nat) : (oI o).take k = oI (o.take k) := by unfold oI; rw [List.map_take]
theorem oI_drop (o : List Nat) (k : Nat) : (oI o).drop k = oI (o.drop k) := by unfold oI; rw [List.map_drop]
set_option maxHeartbeats 32000000 in
set_option maxRecDepth 20000 in
theorem reforder_any (A : Option Addr) (n c : Nat) (ws : List Int) (A' : Option Addr) (m c' : Nat) (cs : List Bool) (w : World) (hn : n ≤ 100) (hm : m ≤ 9223372036854775807) (h : Two2 w A n ws A' m cs) :
    Calls Try.prog 11 #[.slice A n c, .slice A' m c'] w (GivesI w (orderI ws cs)) := by
  have hl1 := h.a.len
  have hl2 := h.b.len
  have H := Lib.hid h
  by_cases hnm : n = m
  · subst hnm
    have HO : Hid (orderI ws cs = oI (orderN ws cs n)) := by show _ = _; unfold orderI orderW; rw [if_pos (hl1.trans hl2.symm), hl1]; rfl
    rw [HO.out]
    clear h hl1 hl2 hm
    go_enter Try.func11, Try.ntmps11
    go_wp2_with fail
    go_loopw [5, 6] (fun t5 t6 wr => ∃ (i mm : Nat) (A5 : Option Addr) (c5 : Nat), t5 = .slice A5 mm c5 ∧ t6 = .int .i64 i ∧ i ≤ n ∧ mm ≤ i ∧ Hid (intK.Row wr w.heap.size A5 mm c5 (oI (orderN ws cs i))) ∧ Hid (Below w.heap.size w wr)) (fun _ t6 _ => n - (intOf t6).toNat)
    case atStart => exact ⟨0, 0, none, 0, rfl, rfl, Nat.zero_le _, Nat.le_refl _, Kind.Row.none_, Below.refl _ _⟩
    case round =>
      obtain ⟨Wa, rfl⟩ : ∃ Wa, Wa = wr := ⟨_, rfl⟩
      obtain ⟨i, mm, A5, c5, rfl, rfl, hi, hmm, HR, HB⟩ := hrel
      have i0 : (0 : Int) ≤ (i : Int) := by omega
      by_cases hlt : i < n
      · have i1 : (i : Int) < (n : Int) := by omega
        obtain ⟨v, HV⟩ : ∃ v, Hid (isC cs i = v) := ⟨_, rfl⟩
        obtain ⟨ab, e1, _, g1⟩ := bool_at (H.out.since HB.out).b hlt
        rw [show cs.getD i false = v from HV.out] at g1
        subst e1
        have HST : Hid (orderN ws cs (i + 1) = if v = true then insW ws i (orderN ws cs i) else orderN ws cs i) := by show _ = _; rw [← HV.out]; rfl
        cases v with
        | false =>
          rw [if_neg (by decide)] at HST
          rw [← HST.out] at HR
          go_wp2_with fail
          go_roundw
          case rel => exact ⟨i + 1, mm, A5, c5, rfl, by go_num, by omega, by omega, HR, HB⟩
          case measure => simp [intOf]; omega
        | true =>
          rw [if_pos rfl] at HST
          obtain ⟨o, HOO⟩ : ∃ o, Hid (orderN ws cs i = o) := ⟨_, rfl⟩
          have HUP : Hid (o.Pairwise (lexW ws)) := by rw [← HOO.out]; exact (order_is i).up
          have HLT : Hid (∀ x ∈ o, x < i) := fun x hx => by rw [← HOO.out] at hx; exact order_lt hx
          rw [HOO.out] at HR HST
          have HOL : Hid (o.length = mm) := by have := HR.out.len; rw [oI_len] at this; exact this
          go_wp2_with fail
          go_loopw [7] (fun t7 wr => ∃ (k : Nat), t7 = .int .i64 k ∧ k ≤ mm ∧ Hid (∀ j, k ≤ j → j < mm → keyW ws i < keyW ws (o.getD j 0)) ∧ Hid (intK.Row wr w.heap.size A5 mm c5 (oI o)) ∧ Hid (Below w.heap.size w wr)) (fun t7 _ => (intOf t7).toNat)
          case atStart => exact ⟨mm, rfl, Nat.le_refl _, fun j h1 h2 => by omega, HR, HB⟩
          clear HR HB g1
          case round =>
            obtain ⟨Wb, rfl⟩ : ∃ Wb, Wb = wr := ⟨_, rfl⟩
            obtain ⟨k, rfl, hk, HK, HR, HB⟩ := hrel
            have k0 : (0 : Int) ≤ (k : Int) := by omega
            obtain ⟨ad, rfl, _, g2⟩ := int_at (H.out.since HB.out).a hlt
            go_wp2_with fail
            obtain ⟨WD, HWD⟩ : ∃ W, Hid (W = Wb.drew) := ⟨_, rfl⟩
            have HDL : Hid (Later Wb WD) := by rw [HWD.out]; exact (Below.refl _ _).drew
            have RD := Lib.hid (HR.out.since HDL.out)
            have BD := Lib.hid (below_chain HB.out HDL.out)
            have G2 := Lib.hid (later_cell HDL.out g2)
            clear HR HB g2
            by_cases hk0 : k = 0

            · have D1 : decide ((0 : Int) < (k : Int)) = false := decide_eq_false (by omega)
              have HAH : Hid (∀ j, j < k → keyW ws (o.getD j 0) ≤ keyW ws i) := fun j hj => by omega
              have HBH : Hid (k < mm → keyW ws i < keyW ws (o.getD k 0)) := fun h => HK.out k (Nat.le_refl _) h
              clear hk0 HK
              refine region_of_steps7 (by kernel_rfl) [some (.int .i64 (k : Int)), some (.bool false), some (.bool false), some undef, some undef, some undef, some undef, some undef, some undef, some undef, some undef, some undef, some undef, some undef, some undef, some undef, some undef, some undef, some (.bool false)] [] [] (LaterJ WD) (by kernel_rfl) (by kernel_rfl) (by rw [← HWD.out]; exact Below.refl _ _) ?_ ?_
              · refine Steps7.cons ?_ (Steps7.cons ?_ (Steps7.cons ?_ (Steps7.cons ?_ (Steps7.cons ?_ (Steps7.cons ?_ (Steps7.cons ?_ (Steps7.cons ?_ (Steps7.cons ?_ (Steps7.cons ?_ (Steps7.cons ?_ (Steps7.cons ?_ (Steps7.cons ?_ (Steps7.cons ?_ (Steps7.cons ?_ (Steps7.cons ?_ (Steps7.cons ?_ (Steps7.cons ?_ (Steps7.cons ?_ (Steps7.nil)))))))))))))))))))
                · intro listed a W H hj hl hd
                  have t7 : a.tmps.getD 7 undef = .int .i64 (k : Int) := (H.old 7 (by kernel_rfl)).trans rfl
                  exact step7_value (i := 0) rfl rfl (run_op_move rfl t7) (calm7 laterJ_later (by kernel_rfl) (by kernel_rfl) hj (later_refl _)) rfl
                · intro listed a W H hj hl hd
                  have t28 : a.tmps.getD 28 undef = .int .i64 (k : Int) := H.get 0 28 (by kernel_rfl) (dep_of hd 0 (by kernel_rfl)) (fun _ h => by cases h)
                  exact step7_value (i := 1) rfl rfl (run_op_bin rfl t28 rfl (bin_gtr _ _ _ (k : Int) 0 false D1)) (calm7 laterJ_later (by kernel_rfl) (by kernel_rfl) hj (later_refl _)) rfl
                · intro listed a W H hj hl hd
                  have t29 : a.tmps.getD 29 undef = .bool false := H.get 1 29 (by kernel_rfl) (dep_of hd 1 (by kernel_rfl)) (fun _ h => by cases h)
                  exact step7_value (i := 2) rfl rfl (run_op_move rfl t29) (calm7 laterJ_later (by kernel_rfl) (by kernel_rfl) hj (later_refl _)) rfl
                · intro listed a W H hj hl hd
                  have t30 : a.tmps.getD 30 undef = .bool false := H.get 2 30 (by kernel_rfl) (dep_of hd 2 (by kernel_rfl)) (fun _ h => by cases h)
                  exact step7_skip (i := 3) rfl (unwanted_at (j := 2) (d := 30) (b := true) (c := false) rfl (by kernel_rfl) t30 rfl) (calm7 laterJ_later (by kernel_rfl) (by kernel_rfl) hj (later_refl _)) rfl
                · intro listed a W H hj hl hd
                  have t30 : a.tmps.getD 30 undef = .bool false := H.get 2 30 (by kernel_rfl) (dep_of hd 2 (by kernel_rfl)) (fun _ h => by cases h)
                  exact step7_skip (i := 4) rfl (unwanted_at (j := 2) (d := 30) (b := true) (c := false) rfl (by kernel_rfl) t30 rfl) (calm7 laterJ_later (by kernel_rfl) (by kernel_rfl) hj (later_refl _)) rfl
                · intro listed a W H hj hl hd
                  have t30 : a.tmps.getD 30 undef = .bool false := H.get 2 30 (by kernel_rfl) (dep_of hd 2 (by kernel_rfl)) (fun _ h => by cases h)
                  exact step7_skip (i := 5) rfl (unwanted_at (j := 2) (d := 30) (b := true) (c := false) rfl (by kernel_rfl) t30 rfl) (calm7 laterJ_later (by kernel_rfl) (by kernel_rfl) hj (later_refl _)) rfl
                · intro listed a W H hj hl hd
                  have t30 : a.tmps.getD 30 undef = .bool false := H.get 2 30 (by kernel_rfl) (dep_of hd 2 (by kernel_rfl)) (fun _ h => by cases h)
                  exact step7_skip (i := 6) rfl (unwanted_at (j := 2) (d := 30) (b := true) (c := false) rfl (by kernel_rfl) t30 rfl) (calm7 laterJ_later (by kernel_rfl) (by kernel_rfl) hj (later_refl _)) rfl
                · intro listed a W H hj hl hd
                  have t30 : a.tmps.getD 30 undef = .bool false := H.get 2 30 (by kernel_rfl) (dep_of hd 2 (by kernel_rfl)) (fun _ h => by cases h)
                  exact step7_skip (i := 7) rfl (unwanted_at (j := 2) (d := 30) (b := true) (c := false) rfl (by kernel_rfl) t30 rfl) (calm7 laterJ_later (by kernel_rfl) (by kernel_rfl) hj (later_refl _)) rfl
                · intro listed a W H hj hl hd
                  have t30 : a.tmps.getD 30 undef = .bool false := H.get 2 30 (by kernel_rfl) (dep_of hd 2 (by kernel_rfl)) (fun _ h => by cases h)
                  exact step7_skip (i := 8) rfl (unwanted_at (j := 2) (d := 30) (b := true) (c := false) rfl (by kernel_rfl) t30 rfl) (calm7 laterJ_later (by kernel_rfl) (by kernel_rfl) hj (later_refl _)) rfl
                · intro listed a W H hj hl hd
                  have t30 : a.tmps.getD 30 undef = .bool false := H.get 2 30 (by kernel_rfl) (dep_of hd 2 (by kernel_rfl)) (fun _ h => by cases h)
                  exact step7_skip (i := 9) rfl (unwanted_at (j := 2) (d := 30) (b := true) (c := false) rfl (by kernel_rfl) t30 rfl) (calm7 laterJ_later (by kernel_rfl) (by kernel_rfl) hj (later_refl _)) rfl
                · intro listed a W H hj hl hd
                  have t30 : a.tmps.getD 30 undef = .bool false := H.get 2 30 (by kernel_rfl) (dep_of hd 2 (by kernel_rfl)) (fun _ h => by cases h)
                  exact step7_skip (i := 10) rfl (unwanted_at (j := 2) (d := 30) (b := true) (c := false) rfl (by kernel_rfl) t30 rfl) (calm7 laterJ_later (by kernel_rfl) (by kernel_rfl) hj (later_refl _)) rfl
                · intro listed a W H hj hl hd
                  have t30 : a.tmps.getD 30 undef = .bool false := H.get 2 30 (by kernel_rfl) (dep_of hd 2 (by kernel_rfl)) (fun _ h => by cases h)
                  exact step7_skip (i := 11) rfl (unwanted_at (j := 2) (d := 30) (b := true) (c := false) rfl (by kernel_rfl) t30 rfl) (calm7 laterJ_later (by kernel_rfl) (by kernel_rfl) hj (later_refl _)) rfl
                · intro listed a W H hj hl hd
                  have t30 : a.tmps.getD 30 undef = .bool false := H.get 2 30 (by kernel_rfl) (dep_of hd 2 (by kernel_rfl)) (fun _ h => by cases h)
                  exact step7_skip (i := 12) rfl (unwanted_at (j := 2) (d := 30) (b := true) (c := false) rfl (by kernel_rfl) t30 rfl) (calm7 laterJ_later (by kernel_rfl) (by kernel_rfl) hj (later_refl _)) rfl
                · intro listed a W H hj hl hd
                  have t30 : a.tmps.getD 30 undef = .bool false := H.get 2 30 (by kernel_rfl) (dep_of hd 2 (by kernel_rfl)) (fun _ h => by cases h)
                  exact step7_skip (i := 13) rfl (unwanted_at (j := 2) (d := 30) (b := true) (c := false) rfl (by kernel_rfl) t30 rfl) (calm7 laterJ_later (by kernel_rfl) (by kernel_rfl) hj (later_refl _)) rfl
                · intro listed a W H hj hl hd
                  have t30 : a.tmps.getD 30 undef = .bool false := H.get 2 30 (by kernel_rfl) (dep_of hd 2 (by kernel_rfl)) (fun _ h => by cases h)
                  exact step7_skip (i := 14) rfl (unwanted_at (j := 2) (d := 30) (b := true) (c := false) rfl (by kernel_rfl) t30 rfl) (calm7 laterJ_later (by kernel_rfl) (by kernel_rfl) hj (later_refl _)) rfl
                · intro listed a W H hj hl hd
                  have t30 : a.tmps.getD 30 undef = .bool false := H.get 2 30 (by kernel_rfl) (dep_of hd 2 (by kernel_rfl)) (fun _ h => by cases h)
                  exact step7_skip (i := 15) rfl (unwanted_at (j := 2) (d := 30) (b := true) (c := false) rfl (by kernel_rfl) t30 rfl) (calm7 laterJ_later (by kernel_rfl) (by kernel_rfl) hj (later_refl _)) rfl
                · intro listed a W H hj hl hd
                  have t30 : a.tmps.getD 30 undef = .bool false := H.get 2 30 (by kernel_rfl) (dep_of hd 2 (by kernel_rfl)) (fun _ h => by cases h)
                  exact step7_skip (i := 16) rfl (unwanted_at (j := 2) (d := 30) (b := true) (c := false) rfl (by kernel_rfl) t30 rfl) (calm7 laterJ_later (by kernel_rfl) (by kernel_rfl) hj (later_refl _)) rfl
                · intro listed a W H hj hl hd
                  have t30 : a.tmps.getD 30 undef = .bool false := H.get 2 30 (by kernel_rfl) (dep_of hd 2 (by kernel_rfl)) (fun _ h => by cases h)
                  exact step7_skip (i := 17) rfl (unwanted_at (j := 2) (d := 30) (b := true) (c := false) rfl (by kernel_rfl) t30 rfl) (calm7 laterJ_later (by kernel_rfl) (by kernel_rfl) hj (later_refl _)) rfl
                · intro listed a W H hj hl hd
                  have t30 : a.tmps.getD 30 undef = .bool false := H.get 2 30 (by kernel_rfl) (dep_of hd 2 (by kernel_rfl)) (fun _ h => by cases h)
                  exact step7_value (i := 18) rfl rfl (run_op_pickF rfl t30 rfl) (calm7 laterJ_later (by kernel_rfl) (by kernel_rfl) hj (later_refl _)) rfl
              · intro a WC hdef hsz hw hall hact
                obtain ⟨u, hu⟩ : ∃ u : Nat → Value, ∀ k, a.tmps.getD k undef = u k := ⟨_, fun _ => rfl⟩
                have h46 : u 46 = .bool false := by rw [← hu]; exact hall 18 _ rfl
                simp only [hu] at hact
                have hact' : a = ([28, 29, 30, 31, 32, 33, 34, 35, 36, 37, 38, 39, 40, 41, 42, 43, 44, 45, 46] : List Nat).foldl (fun b k => b.put (some k) (u k)) _ := hact
                simp only [List.foldl] at hact'
                simp only [Act.put, List.setIfInBounds_toArray, List.set_cons_succ, List.set_cons_zero] at hact'
                have HAC := Lib.hid hact'
                have HX := Lib.hid hw
                clear hact hact' hall hdef hsz hw
                rw [h46] at HAC
                rw [HAC.out]
                have RC := Lib.hid (RD.out.since HX.out)
                have BC := Lib.hid (below_chain BD.out HX.out)
                clear RD BD HX G2 HDL HWD hu
                clear D1
                go_wp2_with fail
                obtain ⟨WE, HWE⟩ : ∃ W, Hid (W = WC.drew) := ⟨_, rfl⟩
                have HEL : Hid (Later WC WE) := by rw [HWE.out]; exact (Below.refl _ _).drew
                have RE := Lib.hid (RC.out.since HEL.out)
                have BE := Lib.hid (below_chain BC.out HEL.out)
                have hcap := RC.out.cap
                have LT : Hid (intK.Lie WE WE.heap.size A5 k (oI (o.take k))) := by rw [← oI_take]; exact RE.out.lie.first hk
                have LD : Hid (intK.Lie WE WE.heap.size (if c5 = k then A5 else A5.map (·.add (k * intK.k))) (mm - k) (oI (o.drop k))) := by rw [← oI_drop]; exact RE.out.lie.rest hk hcap
                have hxw : intK.wf (i : Int) := ⟨by omega, by omega⟩
                clear RC BC
                refine region_of_steps7 (by kernel_rfl) [some (.slice A5 mm c5), some (.int .i64 (k : Int)), some (.slice A5 k c5), none, some (.int .i64 (i : Int)), none, none, some (.slice A5 mm c5), some (.int .i64 (k : Int)), some (.slice (if c5 = k then A5 else A5.map (·.add (k * intK.k))) (mm - k) (c5 - k)), none, none] [3, 5, 6, 10, 11] [52, 54, 55, 59, 5] (InsJ WE k mm o (i : Int)) (by kernel_rfl) (by kernel_rfl) (by rw [← HWE.out]; exact InsJ.start (by rw [slots_len]; rfl)) ?_ ?_
                · refine Steps7.cons ?_ (Steps7.cons ?_ (Steps7.cons ?_ (Steps7.cons ?_ (Steps7.cons ?_ (Steps7.cons ?_ (Steps7.cons ?_ (Steps7.cons ?_ (Steps7.cons ?_ (Steps7.cons ?_ (Steps7.cons ?_ (Steps7.cons ?_ (Steps7.nil))))))))))))
                  · intro listed a W H hj hl hd
                    have t5 : a.tmps.getD 5 undef = .slice A5 mm c5 := (H.before 5 11 0 (by kernel_rfl) (by kernel_rfl) hl).trans rfl
                    exact step7_value (i := 0) rfl rfl (run_op_move rfl t5) (calm7 (fun fs vs x y h hl => InsJ.later h hl) (by kernel_rfl) (by kernel_rfl) hj (later_refl _)) rfl
                  · intro listed a W H hj hl hd
                    have t7 : a.tmps.getD 7 undef = .int .i64 (k : Int) := (H.old 7 (by kernel_rfl)).trans rfl
                    exact step7_value (i := 1) rfl rfl (run_op_move rfl t7) (calm7 (fun fs vs x y h hl => InsJ.later h hl) (by kernel_rfl) (by kernel_rfl) hj (later_refl _)) rfl
                  · intro listed a W H hj hl hd
                    have t49 : a.tmps.getD 49 undef = .slice A5 mm c5 := H.get 0 49 (by kernel_rfl) (dep_of hd 0 (by kernel_rfl)) (fun _ h => by cases h)
                    have t50 : a.tmps.getD 50 undef = .int .i64 (k : Int) := H.get 1 50 (by kernel_rfl) (dep_of hd 1 (by kernel_rfl)) (fun _ h => by cases h)
                    exact step7_value (i := 2) rfl rfl (run_op_slice rfl (by show (Instr.sliceAt 22 (a.tmps.getD 49 undef) none (some (a.tmps.getD 50 undef)) none).run _ _ = _; rw [t49, t50]; rw [run_sliceAt_slice (h := Try.underlying22)]; exact (intK.slice_to A5 mm c5 k hk hcap W))) (calm7 (fun fs vs x y h hl => InsJ.later h hl) (by kernel_rfl) (by kernel_rfl) hj (later_refl _)) rfl
                  · intro listed a W H hj hl hd
                    have t51 : a.tmps.getD 51 undef = .slice A5 k c5 := H.get 2 51 (by kernel_rfl) (dep_of hd 2 (by kernel_rfl)) (fun _ h => by cases h)
                    have f2 : (flags [3, 5, 6, 10, 11] listed).getD 2 false = false := H.notyets 4 hl (by kernel_rfl)
                    obtain ⟨A9, c9, W9, hr, hk9⟩ := hj.first f2 LT.out (by omega)
                    rw [← flags_put (m := 3) 0 rfl (by decide), ← slots_at (a := a) (d := 52) 0 rfl (by decide) (by rw [H.size]; exact of_decide_eq_true (by kernel_rfl))] at hk9
                    exact step7_value (i := 3) rfl rfl (run_op_append rfl rfl t51 hr) hk9 trivial
                  · intro listed a W H hj hl hd
                    have t6 : a.tmps.getD 6 undef = .int .i64 (i : Int) := (H.old 6 (by kernel_rfl)).trans rfl
                    exact step7_value (i := 4) rfl rfl (run_op_move rfl t6) (calm7 (fun fs vs x y h hl => InsJ.later h hl) (by kernel_rfl) (by kernel_rfl) hj (later_refl _)) rfl
                  · intro listed a W H hj hl hd
                    have t53 : a.tmps.getD 53 undef = .int .i64 (i : Int) := H.get 4 53 (by kernel_rfl) (dep_of hd 4 (by kernel_rfl)) (fun _ h => by cases h)
                    have f2 : (flags [3, 5, 6, 10, 11] listed).getD 2 false = false := H.notyets 4 hl (by kernel_rfl)
                    have hk9 := hj.build f2 hxw
                    rw [← flags_put (m := 5) 1 rfl (by decide), ← slots_at (a := a) (d := 54) 1 rfl (by decide) (by rw [H.size]; exact of_decide_eq_true (by kernel_rfl))] at hk9
                    exact step7_value (i := 5) rfl rfl (run_op_build rfl (by simp only [List.map_toArray, List.map_cons, List.map_nil]; show (Instr.buildSlice 22 1 #[(0, a.tmps.getD 53 undef)]).run _ _ = _; rw [t53]; exact run_build_int _ W)) hk9 trivial
                  · intro listed a W H hj hl hd
                    have d52 : listed.getD 3 false = true := dep_of hd 3 (by kernel_rfl)
                    have d54 : listed.getD 5 false = true := dep_of hd 5 (by kernel_rfl)
                    have f0 : (flags [3, 5, 6, 10, 11] listed).getD 0 false = true := done_true (dep_of hd 3 (by kernel_rfl))
                    have f1 : (flags [3, 5, 6, 10, 11] listed).getD 1 false = true := done_true (dep_of hd 5 (by kernel_rfl))
                    have f2 : (flags [3, 5, 6, 10, 11] listed).getD 2 false = false := hl
                    have f3 : (flags [3, 5, 6, 10, 11] listed).getD 3 false = false := H.notyets 4 hl (by kernel_rfl)
                    obtain ⟨A9, c9, W9, hr, hk9⟩ := hj.second f0 f1 f2 f3 (by omega)
                    rw [← flags_put (m := 6) 2 rfl (by decide), ← slots_at (a := a) (d := 55) 2 rfl (by decide) (by rw [H.size]; exact of_decide_eq_true (by kernel_rfl))] at hk9
                    exact step7_value (i := 6) rfl rfl (run_op_append rfl rfl rfl hr) hk9 trivial
                  · intro listed a W H hj hl hd
                    have t5 : a.tmps.getD 5 undef = .slice A5 mm c5 := (H.before 5 11 7 (by kernel_rfl) (by kernel_rfl) hl).trans rfl
                    exact step7_value (i := 7) rfl rfl (run_op_move rfl t5) (calm7 (fun fs vs x y h hl => InsJ.later h hl) (by kernel_rfl) (by kernel_rfl) hj (later_refl _)) rfl
                  · intro listed a W H hj hl hd
                    have t7 : a.tmps.getD 7 undef = .int .i64 (k : Int) := (H.old 7 (by kernel_rfl)).trans rfl
                    exact step7_value (i := 8) rfl rfl (run_op_move rfl t7) (calm7 (fun fs vs x y h hl => InsJ.later h hl) (by kernel_rfl) (by kernel_rfl) hj (later_refl _)) rfl
                  · intro listed a W H hj hl hd
                    have t56 : a.tmps.getD 56 undef = .slice A5 mm c5 := H.get 7 56 (by kernel_rfl) (dep_of hd 7 (by kernel_rfl)) (fun _ h => by cases h)
                    have t57 : a.tmps.getD 57 undef = .int .i64 (k : Int) := H.get 8 57 (by kernel_rfl) (dep_of hd 8 (by kernel_rfl)) (fun _ h => by cases h)
                    exact step7_value (i := 9) rfl rfl (run_op_slice rfl (by show (Instr.sliceAt 22 (a.tmps.getD 56 undef) (some (a.tmps.getD 57 undef)) none none).run _ _ = _; rw [t56, t57]; rw [run_sliceAt_slice (h := Try.underlying22)]; exact (intK.slice_from A5 mm c5 k hk W))) (calm7 (fun fs vs x y h hl => InsJ.later h hl) (by kernel_rfl) (by kernel_rfl) hj (later_refl _)) rfl
                  · intro listed a W H hj hl hd
                    have d55 : listed.getD 6 false = true := dep_of hd 6 (by kernel_rfl)
                    have t58 : a.tmps.getD 58 undef = .slice (if c5 = k then A5 else A5.map (·.add (k * intK.k))) (mm - k) (c5 - k) := H.get 9 58 (by kernel_rfl) (dep_of hd 9 (by kernel_rfl)) (fun _ h => by cases h)
                    have f2 : (flags [3, 5, 6, 10, 11] listed).getD 2 false = true := done_true (dep_of hd 6 (by kernel_rfl))
                    have f3 : (flags [3, 5, 6, 10, 11] listed).getD 3 false = false := hl
                    have f4 : (flags [3, 5, 6, 10, 11] listed).getD 4 false = false := H.notyets 4 hl (by kernel_rfl)
                    obtain ⟨A9, c9, W9, hr, hk9⟩ := hj.third f2 f3 f4 hk LD.out (by omega)
                    rw [← flags_put (m := 10) 3 rfl (by decide), ← slots_at (a := a) (d := 59) 3 rfl (by decide) (by rw [H.size]; exact of_decide_eq_true (by kernel_rfl))] at hk9
                    exact step7_value (i := 10) rfl rfl (run_op_append rfl rfl t58 hr) hk9 trivial
                  · intro listed a W H hj hl hd
                    have d59 : listed.getD 10 false = true := dep_of hd 10 (by kernel_rfl)
                    have hk9 := hj.assign
                    rw [← flags_put (m := 11) 4 rfl (by decide), ← slots_at (a := a) (d := 5) 4 rfl (by decide) (by rw [H.size]; exact of_decide_eq_true (by kernel_rfl))] at hk9
                    exact step7_value (i := 11) rfl rfl (run_op_assign rfl rfl) hk9 trivial
                · intro a WC hdef hsz hw hall hact
                  obtain ⟨u, hu⟩ : ∃ u : Nat → Value, ∀ k, a.tmps.getD k undef = u k := ⟨_, fun _ => rfl⟩
                  simp only [hu] at hact
                  have hact' : a = ([49, 50, 51, 52, 53, 54, 55, 56, 57, 58, 59, 5] : List Nat).foldl (fun b k => b.put (some k) (u k)) _ := hact
                  simp only [List.foldl] at hact'
                  simp only [Act.put, List.setIfInBounds_toArray, List.set_cons_succ, List.set_cons_zero] at hact'
                  have HAC := Lib.hid hact'
                  have HX := Lib.hid hw
                  clear hact hact' hall hdef hsz hw
                  rw [HAC.out]
                  have ea : u 5 = u 59 := by rw [← hu, ← hu]; exact HX.out.asg rfl
                  obtain ⟨A6, c6, e6, r6⟩ := HX.out.a3 rfl
                  have e59 : u 59 = .slice A6 (mm + 1) c6 := by rw [← hu]; exact e6
                  have R6 := Lib.hid (r6.elder (base' := w.heap.size) BE.out.size)
                  have B6 := Lib.hid (BE.out.trans (HX.out.below.mono BE.out.size))
                  rw [ea, e59]
                  rw [show (oI (o.take k) ++ [(i : Int)]) ++ oI (o.drop k) = oI (orderN ws cs (i + 1)) by
                    rw [HST.out, ins_split (ws := ws) (i := i) (o := o) (k := k) (by rw [HOL.out]; exact hk) HAH.out (by rw [HOL.out]; exact HBH.out), oI_append, List.append_assoc]; rfl] at R6
                  clear RE BE HX HEL HWE hu e6 r6 ea e59
                  go_wp2_with fail
                  go_roundw
                  case rel => exact ⟨i + 1, mm + 1, A6, c6, rfl, by go_num, by omega, by omega, R6, B6⟩
                  case measure => simp [intOf]; omega
            · have D1 : decide ((0 : Int) < (k : Int)) = true := decide_eq_true (by omega)
              obtain ⟨ao, eA, _, g3⟩ := int_at RD.out.lie (show k - 1 < mm by omega)
              rw [oI_at (by rw [HOL.out]; omega)] at g3
              obtain ⟨e, HE⟩ : ∃ e, Hid (o.getD (k - 1) 0 = e) := ⟨_, rfl⟩
              rw [HE.out] at g3
              have hei : e < i := by rw [← HE.out]; exact HLT.out _ (by rw [List.getD_eq_getElem?_getD, List.getElem?_eq_getElem (show k - 1 < o.length by rw [HOL.out]; omega)]; exact List.getElem_mem _)
              obtain ⟨ad2, e2, _, g4⟩ := int_at (H.out.since BD.out).a (show e < n by omega)
              obtain rfl := Option.some.inj e2
              obtain ⟨y1, HY1⟩ : ∃ y, Hid (ws.getD e 0 = y) := ⟨_, rfl⟩
              obtain ⟨y2, HY2⟩ : ∃ y, Hid (ws.getD i 0 = y) := ⟨_, rfl⟩
              rw [HY1.out] at g4
              rw [HY2.out] at G2
              obtain ⟨k1, HK1⟩ : ∃ y, Hid (wornM y1 = y) := ⟨_, rfl⟩
              obtain ⟨k2, HK2⟩ : ∃ y, Hid (wornM y2 = y) := ⟨_, rfl⟩
              have KE1 : keyW ws e = k1 := by unfold keyW; rw [HY1.out, HK1.out]
              have KE2 : keyW ws i = k2 := by unfold keyW; rw [HY2.out, HK2.out]
              have hen : e < n := by omega
              have hkm : k - 1 < mm := by omega
              have hsub : (k : Int) - 1 = ((k - 1 : Nat) : Int) := by omega
              have HSUB := Lib.hid hsub
              clear hsub
              by_cases hb : k2 < k1
              · have D2 : decide (k2 < k1) = true := decide_eq_true hb
                refine region_of_steps7 (by kernel_rfl) [some (.int .i64 (k : Int)), some (.bool true), some (.bool true), some (.slice (some ad) n c), some (.slice A5 mm c5), some (.int .i64 (k : Int)), some (.int .i64 ((k - 1 : Nat) : Int)), some (.pointer (some (ao.add (k - 1)))), some (.int .i64 (e : Int)), some (.pointer (some (ad.add e))), some (.int .i64 y1), some (.int .i64 k1), some (.slice (some ad) n c), some (.int .i64 (i : Int)), some (.pointer (some (ad.add i))), some (.int .i64 y2), some (.int .i64 k2), some (.bool true), some (.bool true)] [] [] (LaterJ WD) (by kernel_rfl) (by kernel_rfl) (by rw [← HWD.out]; exact Below.refl _ _) ?_ ?_
                · refine Steps7.cons ?_ (Steps7.cons ?_ (Steps7.cons ?_ (Steps7.cons ?_ (Steps7.cons ?_ (Steps7.cons ?_ (Steps7.cons ?_ (Steps7.cons ?_ (Steps7.cons ?_ (Steps7.cons ?_ (Steps7.cons ?_ (Steps7.cons ?_ (Steps7.cons ?_ (Steps7.cons ?_ (Steps7.cons ?_ (Steps7.cons ?_ (Steps7.cons ?_ (Steps7.cons ?_ (Steps7.cons ?_ (Steps7.nil)))))))))))))))))))
                  · intro listed a W H hj hl hd
                    have t7 : a.tmps.getD 7 undef = .int .i64 (k : Int) := (H.old 7 (by kernel_rfl)).trans rfl
                    exact step7_value (i := 0) rfl rfl (run_op_move rfl t7) (calm7 laterJ_later (by kernel_rfl) (by kernel_rfl) hj (later_refl _)) rfl
                  · intro listed a W H hj hl hd
                    have t28 : a.tmps.getD 28 undef = .int .i64 (k : Int) := H.get 0 28 (by kernel_rfl) (dep_of hd 0 (by kernel_rfl)) (fun _ h => by cases h)
                    exact step7_value (i := 1) rfl rfl (run_op_bin rfl t28 rfl (bin_gtr _ _ _ (k : Int) 0 true D1)) (calm7 laterJ_later (by kernel_rfl) (by kernel_rfl) hj (later_refl _)) rfl
                  · intro listed a W H hj hl hd
                    have t29 : a.tmps.getD 29 undef = .bool true := H.get 1 29 (by kernel_rfl) (dep_of hd 1 (by kernel_rfl)) (fun _ h => by cases h)
                    exact step7_value (i := 2) rfl rfl (run_op_move rfl t29) (calm7 laterJ_later (by kernel_rfl) (by kernel_rfl) hj (later_refl _)) rfl
                  · intro listed a W H hj hl hd
                    have t30 : a.tmps.getD 30 undef = .bool true := H.get 2 30 (by kernel_rfl) (dep_of hd 2 (by kernel_rfl)) (fun _ h => by cases h)
                    have t0 : a.tmps.getD 0 undef = .slice (some ad) n c := (H.old 0 (by kernel_rfl)).trans rfl
                    exact step7_value (i := 3) rfl (wanted_at (j := 2) (d := 30) (b := true) rfl (by kernel_rfl) t30) (run_op_move rfl t0) (calm7 laterJ_later (by kernel_rfl) (by kernel_rfl) hj (later_refl _)) rfl
                  · intro listed a W H hj hl hd
                    have t30 : a.tmps.getD 30 undef = .bool true := H.get 2 30 (by kernel_rfl) (dep_of hd 2 (by kernel_rfl)) (fun _ h => by cases h)
                    have t5 : a.tmps.getD 5 undef = .slice A5 mm c5 := (H.old 5 (by kernel_rfl)).trans rfl
                    exact step7_value (i := 4) rfl (wanted_at (j := 2) (d := 30) (b := true) rfl (by kernel_rfl) t30) (run_op_move rfl t5) (calm7 laterJ_later (by kernel_rfl) (by kernel_rfl) hj (later_refl _)) rfl
                  · intro listed a W H hj hl hd
                    have t30 : a.tmps.getD 30 undef = .bool true := H.get 2 30 (by kernel_rfl) (dep_of hd 2 (by kernel_rfl)) (fun _ h => by cases h)
                    have t7 : a.tmps.getD 7 undef = .int .i64 (k : Int) := (H.old 7 (by kernel_rfl)).trans rfl
                    exact step7_value (i := 5) rfl (wanted_at (j := 2) (d := 30) (b := true) rfl (by kernel_rfl) t30) (run_op_move rfl t7) (calm7 laterJ_later (by kernel_rfl) (by kernel_rfl) hj (later_refl _)) rfl
                  · intro listed a W H hj hl hd
                    have t30 : a.tmps.getD 30 undef = .bool true := H.get 2 30 (by kernel_rfl) (dep_of hd 2 (by kernel_rfl)) (fun _ h => by cases h)
                    have t33 : a.tmps.getD 33 undef = .int .i64 (k : Int) := H.get 5 33 (by kernel_rfl) (dep_of hd 5 (by kernel_rfl)) (fun _ h => by cases h)
                    exact step7_value (i := 6) rfl (wanted_at (j := 2) (d := 30) (b := true) rfl (by kernel_rfl) t30) (run_op_bin rfl t33 rfl (bin_sub _ _ _ (k : Int) 1 ((k - 1 : Nat) : Int) HSUB.out (by omega) (by omega))) (calm7 laterJ_later (by kernel_rfl) (by kernel_rfl) hj (later_refl _)) rfl
                  · intro listed a W H hj hl hd
                    have t30 : a.tmps.getD 30 undef = .bool true := H.get 2 30 (by kernel_rfl) (dep_of hd 2 (by kernel_rfl)) (fun _ h => by cases h)
                    have t32 : a.tmps.getD 32 undef = .slice A5 mm c5 := H.get 4 32 (by kernel_rfl) (dep_of hd 4 (by kernel_rfl)) (fun _ h => by cases h)
                    have t34 : a.tmps.getD 34 undef = .int .i64 ((k - 1 : Nat) : Int) := H.get 6 34 (by kernel_rfl) (dep_of hd 6 (by kernel_rfl)) (fun _ h => by cases h)
                    exact step7_value (i := 7) rfl (wanted_at (j := 2) (d := 30) (b := true) rfl (by kernel_rfl) t30) (run_op_index rfl t32 t34 (by rw [eA]; exact run_index_i ao mm c5 (k - 1) hkm W)) (calm7 laterJ_later (by kernel_rfl) (by kernel_rfl) hj (later_refl _)) rfl
                  · intro listed a W H hj hl hd
                    have t30 : a.tmps.getD 30 undef = .bool true := H.get 2 30 (by kernel_rfl) (dep_of hd 2 (by kernel_rfl)) (fun _ h => by cases h)
                    have t35 : a.tmps.getD 35 undef = .pointer (some (ao.add (k - 1))) := H.get 7 35 (by kernel_rfl) (dep_of hd 7 (by kernel_rfl)) (fun _ h => by cases h)
                    exact step7_value (i := 8) rfl (wanted_at (j := 2) (d := 30) (b := true) rfl (by kernel_rfl) t30) (run_op_load rfl t35 (run_load_int _ _ W (later_cell hj g3))) (calm7 laterJ_later (by kernel_rfl) (by kernel_rfl) hj (later_refl _)) rfl
                  · intro listed a W H hj hl hd
                    have t30 : a.tmps.getD 30 undef = .bool true := H.get 2 30 (by kernel_rfl) (dep_of hd 2 (by kernel_rfl)) (fun _ h => by cases h)
                    have t31 : a.tmps.getD 31 undef = .slice (some ad) n c := H.get 3 31 (by kernel_rfl) (dep_of hd 3 (by kernel_rfl)) (fun _ h => by cases h)
                    have t36 : a.tmps.getD 36 undef = .int .i64 (e : Int) := H.get 8 36 (by kernel_rfl) (dep_of hd 8 (by kernel_rfl)) (fun _ h => by cases h)
                    exact step7_value (i := 9) rfl (wanted_at (j := 2) (d := 30) (b := true) rfl (by kernel_rfl) t30) (run_op_index rfl t31 t36 (run_index_i ad n c e hen W)) (calm7 laterJ_later (by kernel_rfl) (by kernel_rfl) hj (later_refl _)) rfl
                  · intro listed a W H hj hl hd
                    have t30 : a.tmps.getD 30 undef = .bool true := H.get 2 30 (by kernel_rfl) (dep_of hd 2 (by kernel_rfl)) (fun _ h => by cases h)
                    have t37 : a.tmps.getD 37 undef = .pointer (some (ad.add e)) := H.get 9 37 (by kernel_rfl) (dep_of hd 9 (by kernel_rfl)) (fun _ h => by cases h)
                    exact step7_value (i := 10) rfl (wanted_at (j := 2) (d := 30) (b := true) rfl (by kernel_rfl) t30) (run_op_load rfl t37 (run_load_int _ _ W (later_cell hj g4))) (calm7 laterJ_later (by kernel_rfl) (by kernel_rfl) hj (later_refl _)) rfl
                  · intro listed a W H hj hl hd
                    have t30 : a.tmps.getD 30 undef = .bool true := H.get 2 30 (by kernel_rfl) (dep_of hd 2 (by kernel_rfl)) (fun _ h => by cases h)
                    have t38 : a.tmps.getD 38 undef = .int .i64 y1 := H.get 10 38 (by kernel_rfl) (dep_of hd 10 (by kernel_rfl)) (fun _ h => by cases h)
                    refine step7_call (i := 11) rfl (wanted_at (j := 2) (d := 30) (b := true) rfl (by kernel_rfl) t30) (run_op_call (vs := #[.int .i64 y1]) Try.func27 (by kernel_rfl) (by kernel_rfl) rfl (by simp only [List.map_toArray, List.map_cons, List.map_nil]; show #[a.tmps.getD 38 undef] = _; rw [t38])) ?_
                    refine (refworn_any _ W).mono ?_
                    rintro e w' ⟨rfl, rfl⟩
                    refine ⟨_, rfl, (calm7 laterJ_later (by kernel_rfl) (by kernel_rfl) hj (later_refl _)), ?_⟩
                    show Value.int IntKind.i64 _ = _; rw [HK1.out]
                  · intro listed a W H hj hl hd
                    have t30 : a.tmps.getD 30 undef = .bool true := H.get 2 30 (by kernel_rfl) (dep_of hd 2 (by kernel_rfl)) (fun _ h => by cases h)
                    have t0 : a.tmps.getD 0 undef = .slice (some ad) n c := (H.old 0 (by kernel_rfl)).trans rfl
                    exact step7_value (i := 12) rfl (wanted_at (j := 2) (d := 30) (b := true) rfl (by kernel_rfl) t30) (run_op_move rfl t0) (calm7 laterJ_later (by kernel_rfl) (by kernel_rfl) hj (later_refl _)) rfl
                  · intro listed a W H hj hl hd
                    have t30 : a.tmps.getD 30 undef = .bool true := H.get 2 30 (by kernel_rfl) (dep_of hd 2 (by kernel_rfl)) (fun _ h => by cases h)
                    have t6 : a.tmps.getD 6 undef = .int .i64 (i : Int) := (H.old 6 (by kernel_rfl)).trans rfl
                    exact step7_value (i := 13) rfl (wanted_at (j := 2) (d := 30) (b := true) rfl (by kernel_rfl) t30) (run_op_move rfl t6) (calm7 laterJ_later (by kernel_rfl) (by kernel_rfl) hj (later_refl _)) rfl
                  · intro listed a W H hj hl hd
                    have t30 : a.tmps.getD 30 undef = .bool true := H.get 2 30 (by kernel_rfl) (dep_of hd 2 (by kernel_rfl)) (fun _ h => by cases h)
                    have t40 : a.tmps.getD 40 undef = .slice (some ad) n c := H.get 12 40 (by kernel_rfl) (dep_of hd 12 (by kernel_rfl)) (fun _ h => by cases h)
                    have t41 : a.tmps.getD 41 undef = .int .i64 (i : Int) := H.get 13 41 (by kernel_rfl) (dep_of hd 13 (by kernel_rfl)) (fun _ h => by cases h)
                    exact step7_value (i := 14) rfl (wanted_at (j := 2) (d := 30) (b := true) rfl (by kernel_rfl) t30) (run_op_index rfl t40 t41 (run_index_i ad n c i hlt W)) (calm7 laterJ_later (by kernel_rfl) (by kernel_rfl) hj (later_refl _)) rfl
                  · intro listed a W H hj hl hd
                    have t30 : a.tmps.getD 30 undef = .bool true := H.get 2 30 (by kernel_rfl) (dep_of hd 2 (by kernel_rfl)) (fun _ h => by cases h)
                    have t42 : a.tmps.getD 42 undef = .pointer (some (ad.add i)) := H.get 14 42 (by kernel_rfl) (dep_of hd 14 (by kernel_rfl)) (fun _ h => by cases h)
                    exact step7_value (i := 15) rfl (wanted_at (j := 2) (d := 30) (b := true) rfl (by kernel_rfl) t30) (run_op_load rfl t42 (run_load_int _ _ W (later_cell hj G2.out))) (calm7 laterJ_later (by kernel_rfl) (by kernel_rfl) hj (later_refl _)) rfl
                  · intro listed a W H hj hl hd
                    have t30 : a.tmps.getD 30 undef = .bool true := H.get 2 30 (by kernel_rfl) (dep_of hd 2 (by kernel_rfl)) (fun _ h => by cases h)
                    have t43 : a.tmps.getD 43 undef = .int .i64 y2 := H.get 15 43 (by kernel_rfl) (dep_of hd 15 (by kernel_rfl)) (fun _ h => by cases h)
                    refine step7_call (i := 16) rfl (wanted_at (j := 2) (d := 30) (b := true) rfl (by kernel_rfl) t30) (run_op_call (vs := #[.int .i64 y2]) Try.func27 (by kernel_rfl) (by kernel_rfl) rfl (by simp only [List.map_toArray, List.map_cons, List.map_nil]; show #[a.tmps.getD 43 undef] = _; rw [t43])) ?_
                    refine (refworn_any _ W).mono ?_
                    rintro e w' ⟨rfl, rfl⟩
                    refine ⟨_, rfl, (calm7 laterJ_later (by kernel_rfl) (by kernel_rfl) hj (later_refl _)), ?_⟩
                    show Value.int IntKind.i64 _ = _; rw [HK2.out]
                  · intro listed a W H hj hl hd
                    have t30 : a.tmps.getD 30 undef = .bool true := H.get 2 30 (by kernel_rfl) (dep_of hd 2 (by kernel_rfl)) (fun _ h => by cases h)
                    have t39 : a.tmps.getD 39 undef = .int .i64 k1 := H.get 11 39 (by kernel_rfl) (dep_of hd 11 (by kernel_rfl)) (fun _ h => by cases h)
                    have t44 : a.tmps.getD 44 undef = .int .i64 k2 := H.get 16 44 (by kernel_rfl) (dep_of hd 16 (by kernel_rfl)) (fun _ h => by cases h)
                    exact step7_value (i := 17) rfl (wanted_at (j := 2) (d := 30) (b := true) rfl (by kernel_rfl) t30) (run_op_bin rfl t39 t44 (bin_gtr _ _ _ k1 k2 true D2)) (calm7 laterJ_later (by kernel_rfl) (by kernel_rfl) hj (later_refl _)) rfl
                  · intro listed a W H hj hl hd
                    have t30 : a.tmps.getD 30 undef = .bool true := H.get 2 30 (by kernel_rfl) (dep_of hd 2 (by kernel_rfl)) (fun _ h => by cases h)
                    have t45 : a.tmps.getD 45 undef = .bool true := H.get 17 45 (by kernel_rfl) (dep_of hd 17 (by kernel_rfl)) (fun _ h => by cases h)
                    exact step7_value (i := 18) rfl rfl (run_op_pick rfl t30 t45) (calm7 laterJ_later (by kernel_rfl) (by kernel_rfl) hj (later_refl _)) rfl
                · intro a WC hdef hsz hw hall hact
                  obtain ⟨u, hu⟩ : ∃ u : Nat → Value, ∀ k, a.tmps.getD k undef = u k := ⟨_, fun _ => rfl⟩
                  have h46 : u 46 = .bool true := by rw [← hu]; exact hall 18 _ rfl
                  simp only [hu] at hact
                  have hact' : a = ([28, 29, 30, 31, 32, 33, 34, 35, 36, 37, 38, 39, 40, 41, 42, 43, 44, 45, 46] : List Nat).foldl (fun b k => b.put (some k) (u k)) _ := hact
                  simp only [List.foldl] at hact'
                  simp only [Act.put, List.setIfInBounds_toArray, List.set_cons_succ, List.set_cons_zero] at hact'
                  have HAC := Lib.hid hact'
                  have HX := Lib.hid hw
                  clear hact hact' hall hdef hsz hw
                  rw [h46] at HAC
                  rw [HAC.out]
                  have RC := Lib.hid (RD.out.since HX.out)
                  have BC := Lib.hid (below_chain BD.out HX.out)
                  clear RD BD HX G2 HDL HWD hu
                  have HK3 : Hid (∀ j, k - 1 ≤ j → j < mm → keyW ws i < keyW ws (o.getD j 0)) := fun j h1 h2 => by
                    by_cases e : j = k - 1
                    · rw [e, HE.out, KE1, KE2]; exact hb
                    · exact HK.out j (by omega) h2
                  obtain ⟨kk, HKK⟩ : ∃ kk : Nat, Hid (k - 1 = kk) := ⟨_, rfl⟩
                  have hkk : kk ≤ mm := by rw [← HKK.out]; omega
                  have hklt : kk < k := by rw [← HKK.out]; omega
                  rw [HKK.out] at HK3 HSUB
                  have hw1 : IntKind.i64.wrap ((k : Int) - 1) = (kk : Int) := by rw [IntKind.wrap_i64, HSUB.out]; omega
                  have HW1 := Lib.hid hw1
                  clear eA g3 g4 e2 HY1 HY2 HK1 HK2 KE1 KE2 hen hkm D1 D2 hb HE hei hw1 HK hk0
                  go_wp2_with (simp only [HSUB.out])
                  go_roundw
                  case rel => exact ⟨kk, by go_num, hkk, HK3, RC, BC⟩
                  case measure => simp [intOf]; omega
              · have D2 : decide (k2 < k1) = false := decide_eq_false hb
                refine region_of_steps7 (by kernel_rfl) [some (.int .i64 (k : Int)), some (.bool true), some (.bool true), some (.slice (some ad) n c), some (.slice A5 mm c5), some (.int .i64 (k : Int)), some (.int .i64 ((k - 1 : Nat) : Int)), some (.pointer (some (ao.add (k - 1)))), some (.int .i64 (e : Int)), some (.pointer (some (ad.add e))), some (.int .i64 y1), some (.int .i64 k1), some (.slice (some ad) n c), some (.int .i64 (i : Int)), some (.pointer (some (ad.add i))), some (.int .i64 y2), some (.int .i64 k2), some (.bool false), some (.bool false)] [] [] (LaterJ WD) (by kernel_rfl) (by kernel_rfl) (by rw [← HWD.out]; exact Below.refl _ _) ?_ ?_
                · refine Steps7.cons ?_ (Steps7.cons ?_ (Steps7.cons ?_ (Steps7.cons ?_ (Steps7.cons ?_ (Steps7.cons ?_ (Steps7.cons ?_ (Steps7.cons ?_ (Steps7.cons ?_ (Steps7.cons ?_ (Steps7.cons ?_ (Steps7.cons ?_ (Steps7.cons ?_ (Steps7.cons ?_ (Steps7.cons ?_ (Steps7.cons ?_ (Steps7.cons ?_ (Steps7.cons ?_ (Steps7.cons ?_ (Steps7.nil)))))))))))))))))))
                  · intro listed a W H hj hl hd
                    have t7 : a.tmps.getD 7 undef = .int .i64 (k : Int) := (H.old 7 (by kernel_rfl)).trans rfl
                    exact step7_value (i := 0) rfl rfl (run_op_move rfl t7) (calm7 laterJ_later (by kernel_rfl) (by kernel_rfl) hj (later_refl _)) rfl
                  · intro listed a W H hj hl hd
                    have t28 : a.tmps.getD 28 undef = .int .i64 (k : Int) := H.get 0 28 (by kernel_rfl) (dep_of hd 0 (by kernel_rfl)) (fun _ h => by cases h)
                    exact step7_value (i := 1) rfl rfl (run_op_bin rfl t28 rfl (bin_gtr _ _ _ (k : Int) 0 true D1)) (calm7 laterJ_later (by kernel_rfl) (by kernel_rfl) hj (later_refl _)) rfl
                  · intro listed a W H hj hl hd
                    have t29 : a.tmps.getD 29 undef = .bool true := H.get 1 29 (by kernel_rfl) (dep_of hd 1 (by kernel_rfl)) (fun _ h => by cases h)
                    exact step7_value (i := 2) rfl rfl (run_op_move rfl t29) (calm7 laterJ_later (by kernel_rfl) (by kernel_rfl) hj (later_refl _)) rfl
                  · intro listed a W H hj hl hd
                    have t30 : a.tmps.getD 30 undef = .bool true := H.get 2 30 (by kernel_rfl) (dep_of hd 2 (by kernel_rfl)) (fun _ h => by cases h)
                    have t0 : a.tmps.getD 0 undef = .slice (some ad) n c := (H.old 0 (by kernel_rfl)).trans rfl
                    exact step7_value (i := 3) rfl (wanted_at (j := 2) (d := 30) (b := true) rfl (by kernel_rfl) t30) (run_op_move rfl t0) (calm7 laterJ_later (by kernel_rfl) (by kernel_rfl) hj (later_refl _)) rfl
                  · intro listed a W H hj hl hd
                    have t30 : a.tmps.getD 30 undef = .bool true := H.get 2 30 (by kernel_rfl) (dep_of hd 2 (by kernel_rfl)) (fun _ h => by cases h)
                    have t5 : a.tmps.getD 5 undef = .slice A5 mm c5 := (H.old 5 (by kernel_rfl)).trans rfl
                    exact step7_value (i := 4) rfl (wanted_at (j := 2) (d := 30) (b := true) rfl (by kernel_rfl) t30) (run_op_move rfl t5) (calm7 laterJ_later (by kernel_rfl) (by kernel_rfl) hj (later_refl _)) rfl
                  · intro listed a W H hj hl hd
                    have t30 : a.tmps.getD 30 undef = .bool true := H.get 2 30 (by kernel_rfl) (dep_of hd 2 (by kernel_rfl)) (fun _ h => by cases h)
                    have t7 : a.tmps.getD 7 undef = .int .i64 (k : Int) := (H.old 7 (by kernel_rfl)).trans rfl
                    exact step7_value (i := 5) rfl (wanted_at (j := 2) (d := 30) (b := true) rfl (by kernel_rfl) t30) (run_op_move rfl t7) (calm7 laterJ_later (by kernel_rfl) (by kernel_rfl) hj (later_refl _)) rfl
                  · intro listed a W H hj hl hd
                    have t30 : a.tmps.getD 30 undef = .bool true := H.get 2 30 (by kernel_rfl) (dep_of hd 2 (by kernel_rfl)) (fun _ h => by cases h)
                    have t33 : a.tmps.getD 33 undef = .int .i64 (k : Int) := H.get 5 33 (by kernel_rfl) (dep_of hd 5 (by kernel_rfl)) (fun _ h => by cases h)
                    exact step7_value (i := 6) rfl (wanted_at (j := 2) (d := 30) (b := true) rfl (by kernel_rfl) t30) (run_op_bin rfl t33 rfl (bin_sub _ _ _ (k : Int) 1 ((k - 1 : Nat) : Int) HSUB.out (by omega) (by omega))) (calm7 laterJ_later (by kernel_rfl) (by kernel_rfl) hj (later_refl _)) rfl
                  · intro listed a W H hj hl hd
                    have t30 : a.tmps.getD 30 undef = .bool true := H.get 2 30 (by kernel_rfl) (dep_of hd 2 (by kernel_rfl)) (fun _ h => by cases h)
                    have t32 : a.tmps.getD 32 undef = .slice A5 mm c5 := H.get 4 32 (by kernel_rfl) (dep_of hd 4 (by kernel_rfl)) (fun _ h => by cases h)
                    have t34 : a.tmps.getD 34 undef = .int .i64 ((k - 1 : Nat) : Int) := H.get 6 34 (by kernel_rfl) (dep_of hd 6 (by kernel_rfl)) (fun _ h => by cases h)
                    exact step7_value (i := 7) rfl (wanted_at (j := 2) (d := 30) (b := true) rfl (by kernel_rfl) t30) (run_op_index rfl t32 t34 (by rw [eA]; exact run_index_i ao mm c5 (k - 1) hkm W)) (calm7 laterJ_later (by kernel_rfl) (by kernel_rfl) hj (later_refl _)) rfl
                  · intro listed a W H hj hl hd
                    have t30 : a.tmps.getD 30 undef = .bool true := H.get 2 30 (by kernel_rfl) (dep_of hd 2 (by kernel_rfl)) (fun _ h => by cases h)
                    have t35 : a.tmps.getD 35 undef = .pointer (some (ao.add (k - 1))) := H.get 7 35 (by kernel_rfl) (dep_of hd 7 (by kernel_rfl)) (fun _ h => by cases h)
                    exact step7_value (i := 8) rfl (wanted_at (j := 2) (d := 30) (b := true) rfl (by kernel_rfl) t30) (run_op_load rfl t35 (run_load_int _ _ W (later_cell hj g3))) (calm7 laterJ_later (by kernel_rfl) (by kernel_rfl) hj (later_refl _)) rfl
                  · intro listed a W H hj hl hd
                    have t30 : a.tmps.getD 30 undef = .bool true := H.get 2 30 (by kernel_rfl) (dep_of hd 2 (by kernel_rfl)) (fun _ h => by cases h)
                    have t31 : a.tmps.getD 31 undef = .slice (some ad) n c := H.get 3 31 (by kernel_rfl) (dep_of hd 3 (by kernel_rfl)) (fun _ h => by cases h)
                    have t36 : a.tmps.getD 36 undef = .int .i64 (e : Int) := H.get 8 36 (by kernel_rfl) (dep_of hd 8 (by kernel_rfl)) (fun _ h => by cases h)
                    exact step7_value (i := 9) rfl (wanted_at (j := 2) (d := 30) (b := true) rfl (by kernel_rfl) t30) (run_op_index rfl t31 t36 (run_index_i ad n c e hen W)) (calm7 laterJ_later (by kernel_rfl) (by kernel_rfl) hj (later_refl _)) rfl
                  · intro listed a W H hj hl hd
                    have t30 : a.tmps.getD 30 undef = .bool true := H.get 2 30 (by kernel_rfl) (dep_of hd 2 (by kernel_rfl)) (fun _ h => by cases h)
                    have t37 : a.tmps.getD 37 undef = .pointer (some (ad.add e)) := H.get 9 37 (by kernel_rfl) (dep_of hd 9 (by kernel_rfl)) (fun _ h => by cases h)
                    exact step7_value (i := 10) rfl (wanted_at (j := 2) (d := 30) (b := true) rfl (by kernel_rfl) t30) (run_op_load rfl t37 (run_load_int _ _ W (later_cell hj g4))) (calm7 laterJ_later (by kernel_rfl) (by kernel_rfl) hj (later_refl _)) rfl
                  · intro listed a W H hj hl hd
                    have t30 : a.tmps.getD 30 undef = .bool true := H.get 2 30 (by kernel_rfl) (dep_of hd 2 (by kernel_rfl)) (fun _ h => by cases h)
                    have t38 : a.tmps.getD 38 undef = .int .i64 y1 := H.get 10 38 (by kernel_rfl) (dep_of hd 10 (by kernel_rfl)) (fun _ h => by cases h)
                    refine step7_call (i := 11) rfl (wanted_at (j := 2) (d := 30) (b := true) rfl (by kernel_rfl) t30) (run_op_call (vs := #[.int .i64 y1]) Try.func27 (by kernel_rfl) (by kernel_rfl) rfl (by simp only [List.map_toArray, List.map_cons, List.map_nil]; show #[a.tmps.getD 38 undef] = _; rw [t38])) ?_
                    refine (refworn_any _ W).mono ?_
                    rintro e w' ⟨rfl, rfl⟩
                    refine ⟨_, rfl, (calm7 laterJ_later (by kernel_rfl) (by kernel_rfl) hj (later_refl _)), ?_⟩
                    show Value.int IntKind.i64 _ = _; rw [HK1.out]
                  · intro listed a W H hj hl hd
                    have t30 : a.tmps.getD 30 undef = .bool true := H.get 2 30 (by kernel_rfl) (dep_of hd 2 (by kernel_rfl)) (fun _ h => by cases h)
                    have t0 : a.tmps.getD 0 undef = .slice (some ad) n c := (H.old 0 (by kernel_rfl)).trans rfl
                    exact step7_value (i := 12) rfl (wanted_at (j := 2) (d := 30) (b := true) rfl (by kernel_rfl) t30) (run_op_move rfl t0) (calm7 laterJ_later (by kernel_rfl) (by kernel_rfl) hj (later_refl _)) rfl
                  · intro listed a W H hj hl hd
                    have t30 : a.tmps.getD 30 undef = .bool true := H.get 2 30 (by kernel_rfl) (dep_of hd 2 (by kernel_rfl)) (fun _ h => by cases h)
                    have t6 : a.tmps.getD 6 undef = .int .i64 (i : Int) := (H.old 6 (by kernel_rfl)).trans rfl
                    exact step7_value (i := 13) rfl (wanted_at (j := 2) (d := 30) (b := true) rfl (by kernel_rfl) t30) (run_op_move rfl t6) (calm7 laterJ_later (by kernel_rfl) (by kernel_rfl) hj (later_refl _)) rfl
                  · intro listed a W H hj hl hd
                    have t30 : a.tmps.getD 30 undef = .bool true := H.get 2 30 (by kernel_rfl) (dep_of hd 2 (by kernel_rfl)) (fun _ h => by cases h)
                    have t40 : a.tmps.getD 40 undef = .slice (some ad) n c := H.get 12 40 (by kernel_rfl) (dep_of hd 12 (by kernel_rfl)) (fun _ h => by cases h)
                    have t41 : a.tmps.getD 41 undef = .int .i64 (i : Int) := H.get 13 41 (by kernel_rfl) (dep_of hd 13 (by kernel_rfl)) (fun _ h => by cases h)
                    exact step7_value (i := 14) rfl (wanted_at (j := 2) (d := 30) (b := true) rfl (by kernel_rfl) t30) (run_op_index rfl t40 t41 (run_index_i ad n c i hlt W)) (calm7 laterJ_later (by kernel_rfl) (by kernel_rfl) hj (later_refl _)) rfl
                  · intro listed a W H hj hl hd
                    have t30 : a.tmps.getD 30 undef = .bool true := H.get 2 30 (by kernel_rfl) (dep_of hd 2 (by kernel_rfl)) (fun _ h => by cases h)
                    have t42 : a.tmps.getD 42 undef = .pointer (some (ad.add i)) := H.get 14 42 (by kernel_rfl) (dep_of hd 14 (by kernel_rfl)) (fun _ h => by cases h)
                    exact step7_value (i := 15) rfl (wanted_at (j := 2) (d := 30) (b := true) rfl (by kernel_rfl) t30) (run_op_load rfl t42 (run_load_int _ _ W (later_cell hj G2.out))) (calm7 laterJ_later (by kernel_rfl) (by kernel_rfl) hj (later_refl _)) rfl
                  · intro listed a W H hj hl hd
                    have t30 : a.tmps.getD 30 undef = .bool true := H.get 2 30 (by kernel_rfl) (dep_of hd 2 (by kernel_rfl)) (fun _ h => by cases h)
                    have t43 : a.tmps.getD 43 undef = .int .i64 y2 := H.get 15 43 (by kernel_rfl) (dep_of hd 15 (by kernel_rfl)) (fun _ h => by cases h)
                    refine step7_call (i := 16) rfl (wanted_at (j := 2) (d := 30) (b := true) rfl (by kernel_rfl) t30) (run_op_call (vs := #[.int .i64 y2]) Try.func27 (by kernel_rfl) (by kernel_rfl) rfl (by simp only [List.map_toArray, List.map_cons, List.map_nil]; show #[a.tmps.getD 43 undef] = _; rw [t43])) ?_
                    refine (refworn_any _ W).mono ?_
                    rintro e w' ⟨rfl, rfl⟩
                    refine ⟨_, rfl, (calm7 laterJ_later (by kernel_rfl) (by kernel_rfl) hj (later_refl _)), ?_⟩
                    show Value.int IntKind.i64 _ = _; rw [HK2.out]
                  · intro listed a W H hj hl hd
                    have t30 : a.tmps.getD 30 undef = .bool true := H.get 2 30 (by kernel_rfl) (dep_of hd 2 (by kernel_rfl)) (fun _ h => by cases h)
                    have t39 : a.tmps.getD 39 undef = .int .i64 k1 := H.get 11 39 (by kernel_rfl) (dep_of hd 11 (by kernel_rfl)) (fun _ h => by cases h)
                    have t44 : a.tmps.getD 44 undef = .int .i64 k2 := H.get 16 44 (by kernel_rfl) (dep_of hd 16 (by kernel_rfl)) (fun _ h => by cases h)
                    exact step7_value (i := 17) rfl (wanted_at (j := 2) (d := 30) (b := true) rfl (by kernel_rfl) t30) (run_op_bin rfl t39 t44 (bin_gtr _ _ _ k1 k2 false D2)) (calm7 laterJ_later (by kernel_rfl) (by kernel_rfl) hj (later_refl _)) rfl
                  · intro listed a W H hj hl hd
                    have t30 : a.tmps.getD 30 undef = .bool true := H.get 2 30 (by kernel_rfl) (dep_of hd 2 (by kernel_rfl)) (fun _ h => by cases h)
                    have t45 : a.tmps.getD 45 undef = .bool false := H.get 17 45 (by kernel_rfl) (dep_of hd 17 (by kernel_rfl)) (fun _ h => by cases h)
                    exact step7_value (i := 18) rfl rfl (run_op_pick rfl t30 t45) (calm7 laterJ_later (by kernel_rfl) (by kernel_rfl) hj (later_refl _)) rfl
                · intro a WC hdef hsz hw hall hact
                  obtain ⟨u, hu⟩ : ∃ u : Nat → Value, ∀ k, a.tmps.getD k undef = u k := ⟨_, fun _ => rfl⟩
                  have h46 : u 46 = .bool false := by rw [← hu]; exact hall 18 _ rfl
                  simp only [hu] at hact
                  have hact' : a = ([28, 29, 30, 31, 32, 33, 34, 35, 36, 37, 38, 39, 40, 41, 42, 43, 44, 45, 46] : List Nat).foldl (fun b k => b.put (some k) (u k)) _ := hact
                  simp only [List.foldl] at hact'
                  simp only [Act.put, List.setIfInBounds_toArray, List.set_cons_succ, List.set_cons_zero] at hact'
                  have HAC := Lib.hid hact'
                  have HX := Lib.hid hw
                  clear hact hact' hall hdef hsz hw
                  rw [h46] at HAC
                  rw [HAC.out]
                  have RC := Lib.hid (RD.out.since HX.out)
                  have BC := Lib.hid (below_chain BD.out HX.out)
                  clear RD BD HX G2 HDL HWD hu
                  have HAH : Hid (∀ j, j < k → keyW ws (o.getD j 0) ≤ keyW ws i) := fun j hj => by
                    have h5 := up_le HUP.out (show j ≤ k - 1 by omega) (show k - 1 < o.length by rw [HOL.out]; exact hkm)
                    rw [HE.out, KE1] at h5
                    rw [KE2]; omega
                  have HBH : Hid (k < mm → keyW ws i < keyW ws (o.getD k 0)) := fun h => HK.out k (Nat.le_refl _) h
                  clear eA g3 g4 e2 HY1 HY2 HK1 HK2 KE1 KE2 hen hkm D1 D2 hb HE hei HK HSUB hk0
                  go_wp2_with fail
                  obtain ⟨WE, HWE⟩ : ∃ W, Hid (W = WC.drew) := ⟨_, rfl⟩
                  have HEL : Hid (Later WC WE) := by rw [HWE.out]; exact (Below.refl _ _).drew
                  have RE := Lib.hid (RC.out.since HEL.out)
                  have BE := Lib.hid (below_chain BC.out HEL.out)
                  have hcap := RC.out.cap
                  have LT : Hid (intK.Lie WE WE.heap.size A5 k (oI (o.take k))) := by rw [← oI_take]; exact RE.out.lie.first hk
                  have LD : Hid (intK.Lie WE WE.heap.size (if c5 = k then A5 else A5.map (·.add (k * intK.k))) (mm - k) (oI (o.drop k))) := by rw [← oI_drop]; exact RE.out.lie.rest hk hcap
                  have hxw : intK.wf (i : Int) := ⟨by omega, by omega⟩
                  clear RC BC
                  refine region_of_steps7 (by kernel_rfl) [some (.slice A5 mm c5), some (.int .i64 (k : Int)), some (.slice A5 k c5), none, some (.int .i64 (i : Int)), none, none, some (.slice A5 mm c5), some (.int .i64 (k : Int)), some (.slice (if c5 = k then A5 else A5.map (·.add (k * intK.k))) (mm - k) (c5 - k)), none, none] [3, 5, 6, 10, 11] [52, 54, 55, 59, 5] (InsJ WE k mm o (i : Int)) (by kernel_rfl) (by kernel_rfl) (by rw [← HWE.out]; exact InsJ.start (by rw [slots_len]; rfl)) ?_ ?_
                  · refine Steps7.cons ?_ (Steps7.cons ?_ (Steps7.cons ?_ (Steps7.cons ?_ (Steps7.cons ?_ (Steps7.cons ?_ (Steps7.cons ?_ (Steps7.cons ?_ (Steps7.cons ?_ (Steps7.cons ?_ (Steps7.cons ?_ (Steps7.cons ?_ (Steps7.nil))))))))))))
                    · intro listed a W H hj hl hd
                      have t5 : a.tmps.getD 5 undef = .slice A5 mm c5 := (H.before 5 11 0 (by kernel_rfl) (by kernel_rfl) hl).trans rfl
                      exact step7_value (i := 0) rfl rfl (run_op_move rfl t5) (calm7 (fun fs vs x y h hl => InsJ.later h hl) (by kernel_rfl) (by kernel_rfl) hj (later_refl _)) rfl
                    · intro listed a W H hj hl hd
                      have t7 : a.tmps.getD 7 undef = .int .i64 (k : Int) := (H.old 7 (by kernel_rfl)).trans rfl
                      exact step7_value (i := 1) rfl rfl (run_op_move rfl t7) (calm7 (fun fs vs x y h hl => InsJ.later h hl) (by kernel_rfl) (by kernel_rfl) hj (later_refl _)) rfl
                    · intro listed a W H hj hl hd
                      have t49 : a.tmps.getD 49 undef = .slice A5 mm c5 := H.get 0 49 (by kernel_rfl) (dep_of hd 0 (by kernel_rfl)) (fun _ h => by cases h)
                      have t50 : a.tmps.getD 50 undef = .int .i64 (k : Int) := H.get 1 50 (by kernel_rfl) (dep_of hd 1 (by kernel_rfl)) (fun _ h => by cases h)
                      exact step7_value (i := 2) rfl rfl (run_op_slice rfl (by show (Instr.sliceAt 22 (a.tmps.getD 49 undef) none (some (a.tmps.getD 50 undef)) none).run _ _ = _; rw [t49, t50]; rw [run_sliceAt_slice (h := Try.underlying22)]; exact (intK.slice_to A5 mm c5 k hk hcap W))) (calm7 (fun fs vs x y h hl => InsJ.later h hl) (by kernel_rfl) (by kernel_rfl) hj (later_refl _)) rfl
                    · intro listed a W H hj hl hd
                      have t51 : a.tmps.getD 51 undef = .slice A5 k c5 := H.get 2 51 (by kernel_rfl) (dep_of hd 2 (by kernel_rfl)) (fun _ h => by cases h)
                      have f2 : (flags [3, 5, 6, 10, 11] listed).getD 2 false = false := H.notyets 4 hl (by kernel_rfl)
                      obtain ⟨A9, c9, W9, hr, hk9⟩ := hj.first f2 LT.out (by omega)
                      rw [← flags_put (m := 3) 0 rfl (by decide), ← slots_at (a := a) (d := 52) 0 rfl (by decide) (by rw [H.size]; exact of_decide_eq_true (by kernel_rfl))] at hk9
                      exact step7_value (i := 3) rfl rfl (run_op_append rfl rfl t51 hr) hk9 trivial
                    · intro listed a W H hj hl hd
                      have t6 : a.tmps.getD 6 undef = .int .i64 (i : Int) := (H.old 6 (by kernel_rfl)).trans rfl
                      exact step7_value (i := 4) rfl rfl (run_op_move rfl t6) (calm7 (fun fs vs x y h hl => InsJ.later h hl) (by kernel_rfl) (by kernel_rfl) hj (later_refl _)) rfl
                    · intro listed a W H hj hl hd
                      have t53 : a.tmps.getD 53 undef = .int .i64 (i : Int) := H.get 4 53 (by kernel_rfl) (dep_of hd 4 (by kernel_rfl)) (fun _ h => by cases h)
                      have f2 : (flags [3, 5, 6, 10, 11] listed).getD 2 false = false := H.notyets 4 hl (by kernel_rfl)
                      have hk9 := hj.build f2 hxw
                      rw [← flags_put (m := 5) 1 rfl (by decide), ← slots_at (a := a) (d := 54) 1 rfl (by decide) (by rw [H.size]; exact of_decide_eq_true (by kernel_rfl))] at hk9
                      exact step7_value (i := 5) rfl rfl (run_op_build rfl (by simp only [List.map_toArray, List.map_cons, List.map_nil]; show (Instr.buildSlice 22 1 #[(0, a.tmps.getD 53 undef)]).run _ _ = _; rw [t53]; exact run_build_int _ W)) hk9 trivial
                    · intro listed a W H hj hl hd
                      have d52 : listed.getD 3 false = true := dep_of hd 3 (by kernel_rfl)
                      have d54 : listed.getD 5 false = true := dep_of hd 5 (by kernel_rfl)
                      have f0 : (flags [3, 5, 6, 10, 11] listed).getD 0 false = true := done_true (dep_of hd 3 (by kernel_rfl))
                      have f1 : (flags [3, 5, 6, 10, 11] listed).getD 1 false = true := done_true (dep_of hd 5 (by kernel_rfl))
                      have f2 : (flags [3, 5, 6, 10, 11] listed).getD 2 false = false := hl
                      have f3 : (flags [3, 5, 6, 10, 11] listed).getD 3 false = false := H.notyets 4 hl (by kernel_rfl)
                      obtain ⟨A9, c9, W9, hr, hk9⟩ := hj.second f0 f1 f2 f3 (by omega)
                      rw [← flags_put (m := 6) 2 rfl (by decide), ← slots_at (a := a) (d := 55) 2 rfl (by decide) (by rw [H.size]; exact of_decide_eq_true (by kernel_rfl))] at hk9
                      exact step7_value (i := 6) rfl rfl (run_op_append rfl rfl rfl hr) hk9 trivial
                    · intro listed a W H hj hl hd
                      have t5 : a.tmps.getD 5 undef = .slice A5 mm c5 := (H.before 5 11 7 (by kernel_rfl) (by kernel_rfl) hl).trans rfl
                      exact step7_value (i := 7) rfl rfl (run_op_move rfl t5) (calm7 (fun fs vs x y h hl => InsJ.later h hl) (by kernel_rfl) (by kernel_rfl) hj (later_refl _)) rfl
                    · intro listed a W H hj hl hd
                      have t7 : a.tmps.getD 7 undef = .int .i64 (k : Int) := (H.old 7 (by kernel_rfl)).trans rfl
                      exact step7_value (i := 8) rfl rfl (run_op_move rfl t7) (calm7 (fun fs vs x y h hl => InsJ.later h hl) (by kernel_rfl) (by kernel_rfl) hj (later_refl _)) rfl
                    · intro listed a W H hj hl hd
                      have t56 : a.tmps.getD 56 undef = .slice A5 mm c5 := H.get 7 56 (by kernel_rfl) (dep_of hd 7 (by kernel_rfl)) (fun _ h => by cases h)
                      have t57 : a.tmps.getD 57 undef = .int .i64 (k : Int) := H.get 8 57 (by kernel_rfl) (dep_of hd 8 (by kernel_rfl)) (fun _ h => by cases h)
                      exact step7_value (i := 9) rfl rfl (run_op_slice rfl (by show (Instr.sliceAt 22 (a.tmps.getD 56 undef) (some (a.tmps.getD 57 undef)) none none).run _ _ = _; rw [t56, t57]; rw [run_sliceAt_slice (h := Try.underlying22)]; exact (intK.slice_from A5 mm c5 k hk W))) (calm7 (fun fs vs x y h hl => InsJ.later h hl) (by kernel_rfl) (by kernel_rfl) hj (later_refl _)) rfl
                    · intro listed a W H hj hl hd
                      have d55 : listed.getD 6 false = true := dep_of hd 6 (by kernel_rfl)
                      have t58 : a.tmps.getD 58 undef = .slice (if c5 = k then A5 else A5.map (·.add (k * intK.k))) (mm - k) (c5 - k) := H.get 9 58 (by kernel_rfl) (dep_of hd 9 (by kernel_rfl)) (fun _ h => by cases h)
                      have f2 : (flags [3, 5, 6, 10, 11] listed).getD 2 false = true := done_true (dep_of hd 6 (by kernel_rfl))
                      have f3 : (flags [3, 5, 6, 10, 11] listed).getD 3 false = false := hl
                      have f4 : (flags [3, 5, 6, 10, 11] listed).getD 4 false = false := H.notyets 4 hl (by kernel_rfl)
                      obtain ⟨A9, c9, W9, hr, hk9⟩ := hj.third f2 f3 f4 hk LD.out (by omega)
                      rw [← flags_put (m := 10) 3 rfl (by decide), ← slots_at (a := a) (d := 59) 3 rfl (by decide) (by rw [H.size]; exact of_decide_eq_true (by kernel_rfl))] at hk9
                      exact step7_value (i := 10) rfl rfl (run_op_append rfl rfl t58 hr) hk9 trivial
                    · intro listed a W H hj hl hd
                      have d59 : listed.getD 10 false = true := dep_of hd 10 (by kernel_rfl)
                      have hk9 := hj.assign
                      rw [← flags_put (m := 11) 4 rfl (by decide), ← slots_at (a := a) (d := 5) 4 rfl (by decide) (by rw [H.size]; exact of_decide_eq_true (by kernel_rfl))] at hk9
                      exact step7_value (i := 11) rfl rfl (run_op_assign rfl rfl) hk9 trivial
                  · intro a WC hdef hsz hw hall hact
                    obtain ⟨u, hu⟩ : ∃ u : Nat → Value, ∀ k, a.tmps.getD k undef = u k := ⟨_, fun _ => rfl⟩
                    simp only [hu] at hact
                    have hact' : a = ([49, 50, 51, 52, 53, 54, 55, 56, 57, 58, 59, 5] : List Nat).foldl (fun b k => b.put (some k) (u k)) _ := hact
                    simp only [List.foldl] at hact'
                    simp only [Act.put, List.setIfInBounds_toArray, List.set_cons_succ, List.set_cons_zero] at hact'
                    have HAC := Lib.hid hact'
                    have HX := Lib.hid hw
                    clear hact hact' hall hdef hsz hw
                    rw [HAC.out]
                    have ea : u 5 = u 59 := by rw [← hu, ← hu]; exact HX.out.asg rfl
                    obtain ⟨A6, c6, e6, r6⟩ := HX.out.a3 rfl
                    have e59 : u 59 = .slice A6 (mm + 1) c6 := by rw [← hu]; exact e6
                    have R6 := Lib.hid (r6.elder (base' := w.heap.size) BE.out.size)
                    have B6 := Lib.hid (BE.out.trans (HX.out.below.mono BE.out.size))
                    rw [ea, e59]
                    rw [show (oI (o.take k) ++ [(i : Int)]) ++ oI (o.drop k) = oI (orderN ws cs (i + 1)) by
                      rw [HST.out, ins_split (ws := ws) (i := i) (o := o) (k := k) (by rw [HOL.out]; exact hk) HAH.out (by rw [HOL.out]; exact HBH.out), oI_append, List.append_assoc]; rfl] at R6
                    clear RE BE HX HEL HWE hu e6 r6 ea e59
                    go_wp2_with fail
                    go_roundw
                    case rel => exact ⟨i + 1, mm + 1, A6, c6, rfl, by go_num, by omega, by omega, R6, B6⟩
                    case measure => simp [intOf]; omega
      · obtain rfl : i = n := by omega
        go_wp2_with fail
        go_ret
        exact ⟨_, _, _, rfl, HR, HB⟩
  · have HO : Hid (orderI ws cs = []) := by show _ = _; unfold orderI orderW; rw [if_neg (by rw [hl1, hl2]; exact hnm)]; rfl
    rw [HO.out]
    have hq : ((n : Int) == (m : Int)) = false := by simp; omega
    clear h hl1 hl2
    go_enter Try.func11, Try.ntmps11
    go_wp2_with fail
    go_loopw [5, 6] (fun t5 t6 wr => t5 = .slice none 0 0 ∧ t6 = .int .i64 0 ∧ wr = w) (fun _ _ _ => 0)
    case atStart => exact ⟨rfl, rfl, rfl⟩
    case round =>
      obtain ⟨rfl, rfl, rfl⟩ := hrel
      by_cases h0 : 0 < n
      · have h0i : (0 : Int) < (n : Int) := by omega
        go_wp2_with fail
        go_ret
        exact ⟨none, 0, 0, rfl, Kind.Row.none_, Below.refl _ _⟩
      · have h0i : ¬ (0 : Int) < (n : Int) := by omega
        go_wp2_with fail
        go_ret
        exact ⟨none, 0, 0, rfl, Kind.Row.none_, Below.refl _ _⟩
end Go.Proofs.Ytggijifealljiaa
