/- Rows of words put in order in their place, as mathematics: exchanges within a range, what is in order. No conditions; no program. slices.Sort of words: cmp.Less, the insertion sort. Conditions: the row's cells; at most 8000 words. -/
import Derived.Test.YtfidamiomnohcaaWordK
import Derived.Test.YtfidamiomnohcaaKindMade
import Derived.Test.YtfidamiomnohcaaTurn
import Derived.Test.YtfidamiomnohcaaQuiet
set_option linter.unusedVariables false
set_option linter.unusedSimpArgs false
set_option maxRecDepth 20000
namespace Go.Proofs.Ytfidamiomnohcaa
section
open Go.RowKit

def gD (V : List Int) (i : Nat) : Int := V.getD i 0
theorem gD_set_self {V : List Int} {i : Nat} (x : Int) (h : i < V.length) : gD (V.set i x) i = x := by
  unfold gD; rw [List.getD_eq_getElem?_getD, List.getElem?_set_self h]; rfl
theorem gD_set_ne {V : List Int} {i j : Nat} (x : Int) (h : i ≠ j) : gD (V.set i x) j = gD V j := by
  unfold gD; rw [List.getD_eq_getElem?_getD, List.getElem?_set_ne h, List.getD_eq_getElem?_getD]
def swapL (V : List Int) (i j : Nat) : List Int := (V.set i (gD V j)).set j (gD V i)
theorem swap_len (V : List Int) (i j : Nat) : (swapL V i j).length = V.length := by simp [swapL]
theorem swap_i {V : List Int} {i j : Nat} (hi : i < V.length) (hj : j < V.length) : gD (swapL V i j) i = gD V j := by
  unfold swapL
  by_cases e : j = i
  · subst e
    rw [gD_set_self _ (by simpa using hj)]
  · rw [gD_set_ne _ e, gD_set_self _ hi]
theorem swap_j {V : List Int} {i j : Nat} (hi : i < V.length) (hj : j < V.length) : gD (swapL V i j) j = gD V i := by
  unfold swapL
  rw [gD_set_self _ (by simpa using hj)]
theorem swap_o {V : List Int} {i j k : Nat} (h1 : k ≠ i) (h2 : k ≠ j) : gD (swapL V i j) k = gD V k := by
  unfold swapL
  rw [gD_set_ne _ (Ne.symm h2), gD_set_ne _ (Ne.symm h1)]
theorem gD_ext {V U : List Int} (hl : V.length = U.length) (h : ∀ i, i < V.length → gD V i = gD U i) : V = U := by
  apply List.ext_getElem hl
  intro i h1 h2
  have := h i h1
  unfold gD at this
  rw [List.getD_eq_getElem?_getD, List.getD_eq_getElem?_getD, List.getElem?_eq_getElem h1, List.getElem?_eq_getElem h2] at this
  exact this
theorem swap_same {V : List Int} {i : Nat} (hi : i < V.length) : swapL V i i = V := gD_ext (swap_len _ _ _) fun k hk => by
  by_cases e : k = i
  · subst e; exact swap_i hi hi
  · exact swap_o e e
theorem swap_comm {V : List Int} {i j : Nat} (hi : i < V.length) (hj : j < V.length) : swapL V i j = swapL V j i := gD_ext (by rw [swap_len, swap_len]) fun k hk => by
  by_cases e : k = i
  · subst e; rw [swap_i hi hj, swap_j hj hi]
  · by_cases e2 : k = j
    · subst e2; rw [swap_j hi hj, swap_i hj hi]
    · rw [swap_o e e2, swap_o e2 e]
theorem swap_perm {V : List Int} {i j : Nat} (hi : i < V.length) (hj : j < V.length) : (swapL V i j).Perm V := by
  have key : ∀ {i j : Nat}, i < j → j < V.length → (swapL V i j).Perm V := by
    intro i j hij hj
    have hi : i < V.length := by omega
    obtain ⟨P, R, rfl, hP⟩ : ∃ P R, V = P ++ R ∧ P.length = i := ⟨V.take i, V.drop i, (List.take_append_drop _ _).symm, by rw [List.length_take]; omega⟩
    cases R with
    | nil => simp at hi; omega
    | cons x R =>
      obtain ⟨Q, S, rfl, hQ⟩ : ∃ Q S, R = Q ++ S ∧ Q.length = j - i - 1 := ⟨R.take (j - i - 1), R.drop (j - i - 1), (List.take_append_drop _ _).symm, by rw [List.length_take]; simp at hj; omega⟩
      cases S with
      | nil => simp at hj; omega
      | cons y S =>
        have gi : gD (P ++ x :: (Q ++ y :: S)) i = x := by
          unfold gD; rw [List.getD_eq_getElem?_getD, List.getElem?_append_right (by omega), hP, Nat.sub_self]; rfl
        have gj : gD (P ++ x :: (Q ++ y :: S)) j = y := by
          unfold gD
          rw [List.getD_eq_getElem?_getD, List.getElem?_append_right (by omega), show j - P.length = Q.length + 1 by omega, List.getElem?_cons_succ, List.getElem?_append_right (Nat.le_refl _), Nat.sub_self]; rfl
        unfold swapL
        rw [gi, gj]
        have e1 : (P ++ x :: (Q ++ y :: S)).set i y = P ++ y :: (Q ++ y :: S) := by
          rw [List.set_append_right _ _ (by omega), hP, Nat.sub_self]; rfl
        have e2 : (P ++ y :: (Q ++ y :: S)).set j x = P ++ y :: (Q ++ x :: S) := by
          rw [List.set_append_right _ _ (by omega), show j - P.length = Q.length + 1 by omega, List.set_cons_succ, List.set_append_right _ _ (Nat.le_refl _), Nat.sub_self]; rfl
        rw [e1, e2]
        refine List.Perm.append_left P ?_
        exact (List.Perm.cons y List.perm_middle).trans ((List.Perm.swap x y _).trans (List.Perm.cons x List.perm_middle.symm))
  rcases Nat.lt_trichotomy i j with h | h | h
  · exact key h hj
  · subst h; rw [swap_same hi]
  · rw [swap_comm hi hj]; exact key h hi
/-- One row comes of another by exchanges within a range. -/
inductive Ran (a b : Nat) (V : List Int) : List Int → Prop where
  | refl : Ran a b V V
  | step {U : List Int} {i j : Nat} : Ran a b V U → a ≤ i → i < b → a ≤ j → j < b → Ran a b V (swapL U i j)
theorem Ran.len {a b : Nat} {V U : List Int} (h : Ran a b V U) : U.length = V.length := by
  induction h with
  | refl => rfl
  | step _ _ _ _ _ ih => rw [swap_len, ih]
theorem Ran.perm {a b : Nat} {V U : List Int} (h : Ran a b V U) (hb : b ≤ V.length) : U.Perm V := by
  induction h with
  | refl => exact List.Perm.refl _
  | step hr h1 h2 h3 h4 ih => exact (swap_perm (by rw [hr.len]; omega) (by rw [hr.len]; omega)).trans ih
theorem Ran.out {a b : Nat} {V U : List Int} (h : Ran a b V U) {k : Nat} (hk : k < a ∨ b ≤ k) : gD U k = gD V k := by
  induction h with
  | refl => rfl
  | step _ h1 h2 h3 h4 ih => rw [swap_o (by omega) (by omega), ih]
/-- What stands in the range stood there. -/
theorem Ran.mem {a b : Nat} {V U : List Int} (h : Ran a b V U) (hb : b ≤ V.length) {k : Nat} (h1 : a ≤ k) (h2 : k < b) : ∃ m, a ≤ m ∧ m < b ∧ gD U k = gD V m := by
  induction h generalizing k with
  | refl => exact ⟨k, h1, h2, rfl⟩
  | @step U i j hr g1 g2 g3 g4 ih =>
    have hl := hr.len
    by_cases e : k = i
    · subst e
      rw [swap_i (by omega) (by omega)]; exact ih g3 g4
    · by_cases e2 : k = j
      · subst e2
        rw [swap_j (by omega) (by omega)]; exact ih g1 g2
      · rw [swap_o e e2]; exact ih h1 h2
theorem Ran.trans {a b : Nat} {V U T : List Int} (h : Ran a b V U) (k : Ran a b U T) : Ran a b V T := by
  induction k with
  | refl => exact h
  | step _ h1 h2 h3 h4 ih => exact .step ih h1 h2 h3 h4
theorem Ran.wider {a b a' b' : Nat} {V U : List Int} (h : Ran a b V U) (ha : a' ≤ a) (hb : b ≤ b') : Ran a' b' V U := by
  induction h with
  | refl => exact .refl
  | step _ h1 h2 h3 h4 ih => exact .step ih (by omega) (by omega) (by omega) (by omega)
/-- In order within a range. -/
def SrtIn (a b : Nat) (V : List Int) : Prop := ∀ i j, a ≤ i → i < j → j < b → gD V i ≤ gD V j
/-- All but the one at j, which stands no later than it should. -/
def SrtBut (a b j : Nat) (V : List Int) : Prop := ∀ p q, a ≤ p → p < q → q < b → q ≠ j → gD V p ≤ gD V q
theorem but_start {a i : Nat} {V : List Int} (h : SrtIn a i V) : SrtBut a (i + 1) i V := fun p q h1 h2 h3 h4 => h p q h1 h2 (by omega)
theorem but_end {a b j : Nat} {V : List Int} (h : SrtBut a b j V) (hj : j < b) (hd : j = a ∨ gD V (j - 1) ≤ gD V j) : SrtIn a b V := fun p q h1 h2 h3 => by
  by_cases e : q = j
  · subst e
    rcases hd with hd | hd
    · omega
    · by_cases e2 : p = q - 1
      · subst e2; exact hd
      · exact Int.le_trans (h p (q - 1) h1 (by omega) (by omega) (by omega)) hd
  · exact h p q h1 h2 h3 e
theorem but_step {a b j : Nat} {V : List Int} (h : SrtBut a b (j + 1) V) (ha : a ≤ j) (hb : j + 1 < b) (hl : b ≤ V.length) (hd : gD V (j + 1) < gD V j) : SrtBut a b j (swapL V (j + 1) j) := fun p q h1 h2 h3 h4 => by
  have e1 := swap_i (V := V) (i := j + 1) (j := j) (by omega) (by omega)
  have e2 := swap_j (V := V) (i := j + 1) (j := j) (by omega) (by omega)
  by_cases q1 : q = j + 1
  · subst q1
    rw [e1]
    by_cases p1 : p = j
    · subst p1; rw [e2]; omega
    · rw [swap_o (by omega) p1]
      exact h p j h1 (by omega) (by omega) (by omega)
  · rw [swap_o q1 h4]
    by_cases p1 : p = j + 1
    · subst p1; rw [e1]
      exact h j q ha (by omega) h3 q1
    · by_cases p2 : p = j
      · subst p2; rw [e2]
        exact h (p + 1) q (by omega) (by omega) h3 q1
      · rw [swap_o p1 p2]
        exact h p q h1 h2 h3 q1
theorem srtIn_pairwise {V : List Int} (h : SrtIn 0 V.length V) : V.Pairwise (· ≤ ·) := by
  rw [List.pairwise_iff_getElem]
  intro i j hi hj hij
  have := h i j (Nat.zero_le _) hij hj
  unfold gD at this
  rw [List.getD_eq_getElem?_getD, List.getD_eq_getElem?_getD, List.getElem?_eq_getElem hi, List.getElem?_eq_getElem hj] at this
  exact this
end

section
open Go.RowKit

/-- The row at block g holds V; of what stood in W0 it alone may have turned. -/
structure WR (g n c : Nat) (W0 : World) (V : List Int) (W : World) : Prop where
  row : wordK.Row W g (some ⟨g, 0, none⟩) n c V
  turn : Turn (fun b => b = g) W0 W
section
variable {g n c : Nat} {W0 W W' : World} {V V' : List Int}
theorem WR.len (h : WR g n c W0 V W) : V.length = n := h.row.len
theorem WR.cell (h : WR g n c W0 V W) {i : Nat} (hi : i < n) : W.cell? ⟨g, i, none⟩ = some (.int .u64 (gD V i)) := by
  obtain ⟨ad, e1, _, e3⟩ := word_at h.row.lie hi
  rw [← Option.some.inj e1, add_zero_addr] at e3
  exact e3
theorem WR.free (h : WR g n c W0 V W) (i : Nat) : W.frozen? ⟨g, i, none⟩ = false := by
  obtain ⟨cur, e⟩ := Row.typed h.row g (by simp [blk])
  simp [World.frozen?, e]
theorem WR.since (h : WR g n c W0 V W) (hb : Below W.heap.size W W') : WR g n c W0 V W' := ⟨h.row.since hb, h.turn.trans (Turn.of_below (fp := fun b => b = g) hb) fun b hb => Or.inl hb⟩
theorem WR.drewN (h : WR g n c W0 V W) (q : Nat) : WR g n c W0 V (W.drewN q) := h.since (below_drewN (Below.refl _ _) q)
theorem WR.wf (h : WR g n c W0 V W) (i : Nat) : wordK.wf (gD V i) := h.row.lie.wf i
theorem WR.put (h : WR g n c W0 V W) {i : Nat} (hi : i < n) {x : Int} (hx : wordK.wf x) : WR g n c W0 (V.set i x) (W.setCell ⟨g, i, none⟩ (.int .u64 x)) := by
  have k := h.row.put (i := i) (r := 0) hi (by decide) (.int .u64 x) x rfl hx
  rw [show i * wordK.k + 0 = i from Nat.mul_one i] at k
  exact ⟨k, h.turn.trans (Turn.of_setCell (fp := fun b => b = g) ⟨g, i, none⟩ _ rfl) fun b hb => Or.inl hb⟩
/-- An exchange, either cell first. -/
theorem WR.swap (h : WR g n c W0 V W) {i j : Nat} (hi : i < n) (hj : j < n) : WR g n c W0 (swapL V i j) ((W.setCell ⟨g, i, none⟩ (.int .u64 (gD V j))).setCell ⟨g, j, none⟩ (.int .u64 (gD V i))) := (h.put hi (h.wf j)).put hj (h.wf i)
theorem WR.swap' (h : WR g n c W0 V W) {i j : Nat} (hi : i < n) (hj : j < n) : WR g n c W0 (swapL V i j) ((W.setCell ⟨g, j, none⟩ (.int .u64 (gD V i))).setCell ⟨g, i, none⟩ (.int .u64 (gD V j))) := by
  have hl := h.len
  rw [swap_comm (by omega) (by omega)]
  exact h.swap hj hi
end
def Sorts (g n c : Nat) (W0 : World) (Q : List Int → Prop) (e : Ending) (w' : World) : Prop := e = .returned (.tuple #[]) ∧ ∃ V, Hid (WR g n c W0 V w') ∧ Hid (Q V)
theorem isnanW_any (x : Int) (w : World) : Calls Try.prog 89 #[.int .u64 x] w fun e w' => e = .returned (.bool false) ∧ w' = w := by
  go_enter Try.func89, Try.ntmps89
  go_wp2_with fail
  go_ret
  exact ⟨rfl, rfl⟩
theorem less_any (x y : Int) (w : World) : Calls Try.prog 71 #[.int .u64 x, .int .u64 y] w fun e w' => e = .returned (.bool (decide (x < y))) ∧ w' = w := by
  have C1 := Lib.hid (isnanW_any x w)
  obtain ⟨q, HQ⟩ : ∃ q, Hid (decide (x < y) = q) := ⟨_, rfl⟩
  rw [HQ.out]
  have hq := HQ.out
  rcases q with _ | _
  · go_enter Try.func71, Try.ntmps71
    go_wp2_with fail
    refine C1.out.mono ?_
    rintro e w' ⟨rfl, rfl⟩
    go_wp2_with fail
    go_ret
    exact ⟨rfl, rfl⟩
  · go_enter Try.func71, Try.ntmps71
    go_wp2_with fail
    refine C1.out.mono ?_
    rintro e w' ⟨rfl, rfl⟩
    go_wp2_with fail
    go_ret
    exact ⟨rfl, rfl⟩
section
variable {g n c : Nat} {W0 : World} {V : List Int} {a b : Nat}
set_option maxRecDepth 100000 in
set_option maxHeartbeats 8000000 in
theorem inssort_any (w : World) (S0 : WR g n c W0 V w) (hab : a ≤ b) (hb : b ≤ n) (hn : n ≤ 8000) :
    Calls Try.prog 74 #[.slice (some ⟨g, 0, none⟩) n c, .int .i64 a, .int .i64 b] w (Sorts g n c W0 fun V' => Ran a b V V' ∧ SrtIn a b V') := by
  have HVL : Hid (V.length = n) := S0.len
  have H0 := Lib.hid S0
  have HR0 : Hid (Ran a b V V) := .refl
  clear S0
  go_enter Try.func74, Try.ntmps74
  go_wp2_with fail
  go_loopw [6] (fun t6 wr => ∃ (i : Nat) (U : List Int), t6 = .int .i64 i ∧ a + 1 ≤ i ∧ i ≤ b + 1 ∧ Hid (WR g n c W0 U wr) ∧ Hid (Ran a b V U) ∧ Hid (SrtIn a i U)) (fun t6 _ => n + 1 - (intOf t6).toNat)
  case atStart => exact ⟨a + 1, V, by go_num, Nat.le_refl _, by omega, H0, HR0, fun p q h1 h2 h3 => by omega⟩
  case round =>
    clear H0 HR0
    obtain ⟨i, U, rfl, hai, hib, HU, HR, HS⟩ := hrel
    by_cases hlt : i < b
    · have hltz : (i : Int) < (b : Int) := by omega
      have HB : Hid (SrtBut a (i + 1) i U) := but_start HS.out
      clear HS
      go_wp2_with fail
      go_loopw [7] (fun t7 wr => ∃ (j : Nat) (U : List Int), t7 = .int .i64 j ∧ a ≤ j ∧ j ≤ i ∧ Hid (WR g n c W0 U wr) ∧ Hid (Ran a b V U) ∧ Hid (SrtBut a (i + 1) j U)) (fun t7 _ => (intOf t7).toNat)
      case atStart => exact ⟨i, U, rfl, by omega, Nat.le_refl _, HU, HR, HB⟩
      case round =>
        clear HU HR HB
        obtain ⟨j, U2, rfl, haj, hji, HU, HR, HB⟩ := hrel
        have hjn : j < n := by omega
        have HUL : Hid (U2.length = n) := HU.out.len
        by_cases hja : a < j
        · have hjz : (a : Int) < (j : Int) := by omega
          have d0 : decide ((j : Int) > (a : Int)) = true := decide_eq_true hjz
          obtain ⟨k, HK⟩ : ∃ k, Hid (j = k + 1) := ⟨j - 1, by show _ = _; omega⟩
          have hkz : (j : Int) - 1 = (k : Int) := by have := HK.out; omega
          have hkw : IntKind.i64.wrap ((j : Int) - 1) = (k : Int) := by rw [IntKind.wrap_i64]; have := HK.out; omega
          have hkn : k < n := by have := HK.out; omega
          obtain ⟨x, HX⟩ : ∃ x, Hid (gD U2 j = x) := ⟨_, rfl⟩
          obtain ⟨z, HZ⟩ : ∃ z, Hid (gD U2 k = z) := ⟨_, rfl⟩
          have c1 := HU.out.cell hjn
          have c2 := HU.out.cell hkn
          rw [HX.out] at c1
          rw [HZ.out] at c2
          have f1 := HU.out.free j
          have f2 := HU.out.free k
          have i0 : (0 : Int) ≤ (j : Int) := by omega
          have i1 : (j : Int) < (n : Int) := by omega
          have i2 : (0 : Int) ≤ (k : Int) := by omega
          have i3 : (k : Int) < (n : Int) := by omega
          have ne : k ≠ j := by have := HK.out; omega
          have ne' : j ≠ k := by have := HK.out; omega
          have hc : ∀ q, Calls Try.prog 71 #[.int .u64 x, .int .u64 z] (wr.drewN q) fun e w' => e = .returned (.bool (decide (x < z))) ∧ ∃ r, w' = (wr.drewN q).drewN r := fun q => (less_any x z _).mono fun e w' h => ⟨h.1, 0, by rw [h.2]; rfl⟩
          by_cases hv : x < z
          · have hd : decide (x < z) = true := decide_eq_true hv
            rw [hd] at hc
            go_wp2_with fail
            go_quiet (refine Calls.quiet_of (hc _))
            have S2 := Lib.hid (HU.out.drewN nq)
            have c1' : (wr.drewN nq).cell? ⟨g, j, none⟩ = some (.int .u64 x) := c1
            have c2' : (wr.drewN nq).cell? ⟨g, k, none⟩ = some (.int .u64 z) := c2
            have f1' : (wr.drewN nq).frozen? ⟨g, j, none⟩ = false := f1
            have f2' : (wr.drewN nq).frozen? ⟨g, k, none⟩ = false := f2
            clear c1 c2 f1 f2 hc HU
            generalize wr.drewN nq = w2 at S2 c1' c2' f1' f2' ⊢
            clear nq
            go_wp2_with fail
            go_region
            have NS : Hid (WR g n c W0 (swapL U2 j k) ((w2.setCell ⟨g, j, none⟩ (.int .u64 z)).setCell ⟨g, k, none⟩ (.int .u64 x)).drew) := by
              have := (S2.out.swap hjn hkn).drewN 1
              rw [HX.out, HZ.out] at this
              exact this
            have HR3 : Hid (Ran a b V (swapL U2 j k)) := HR.out.step haj (by omega) (by have := HK.out; omega) (by have := HK.out; omega)
            have HB3 : Hid (SrtBut a (i + 1) k (swapL U2 j k)) := by
              have h1 := HB.out
              have h2 := HX.out
              rw [HK.out] at h1 h2 ⊢
              exact but_step h1 (by have := HK.out; omega) (by have := HK.out; omega) (by rw [HUL.out]; omega) (by rw [h2, HZ.out]; exact hv)
            clear c1' c2' f1' f2' S2
            go_wp2_with fail
            go_roundw
            case rel => exact ⟨k, _, by go_num, by have := HK.out; omega, by have := HK.out; omega, NS, HR3, HB3⟩
            case measure => have := HK.out; simp [intOf]; omega
          · have hd : decide (x < z) = false := decide_eq_false hv
            rw [hd] at hc
            go_wp2_with fail
            go_quiet (refine Calls.quiet_of (hc _))
            have S2 := Lib.hid (HU.out.drewN nq)
            have HE : Hid (SrtIn a (i + 1) U2) := but_end HB.out (by omega) (Or.inr (by
              rw [HX.out, show j - 1 = k by have := HK.out; omega, HZ.out]; omega))
            clear c1 c2 f1 f2 hc HU HB
            go_wp2_with fail
            go_roundw
            case rel => exact ⟨i + 1, U2, by go_num, by omega, by omega, S2, HR, HE⟩
            case measure => simp [intOf]; omega
        · obtain rfl : j = a := by omega
          have d0 : decide ((j : Int) > (j : Int)) = false := decide_eq_false (by omega)
          have HE : Hid (SrtIn j (i + 1) U2) := but_end HB.out (by omega) (Or.inl rfl)
          go_wp2_with fail
          go_quiet (fail)
          have S2 := Lib.hid (HU.out.drewN nq)
          go_wp2_with fail
          go_roundw
          case rel => exact ⟨i + 1, U2, by go_num, by omega, by omega, S2, HR, HE⟩
          case measure => simp [intOf]; omega
    · have HE : Hid (SrtIn a b U) := fun p q h1 h2 h3 => HS.out p q h1 h2 (by omega)
      go_wp2_with fail
      go_end0
      exact ⟨rfl, U, HU, HR.out, HE.out⟩
/-- What is asked of slices.Sort: rows of at most N words come in order. -/
def SortTo (N : Nat) : Prop := ∀ (A : Option Addr) (n c base : Nat) (xs : List Int) (w : World), n ≤ N → base ≤ w.heap.size → wordK.Row w base A n c xs →
  Calls Try.prog 40 #[.slice A n c] w fun e w' => e = .returned (.tuple #[]) ∧ ∃ ys, Hid (ys.Perm xs) ∧ Hid (ys.Pairwise (· ≤ ·)) ∧ Hid (wordK.Row w' base A n c ys) ∧ Hid (Turn (fun b => b ∈ blk A) w w')
theorem pdq_short (w : World) (S0 : WR g n c W0 V w) (hab : a ≤ b) (hb : b ≤ n) (hn : n ≤ 8000) (hs : b ≤ a + 12) (lim : Int) :
    Calls Try.prog 62 #[.slice (some ⟨g, 0, none⟩) n c, .int .i64 a, .int .i64 b, .int .i64 lim] w (Sorts g n c W0 fun V' => Ran a b V V' ∧ SrtIn a b V') := by
  have C := Lib.hid (inssort_any w S0 hab hb hn)
  have i0 : (b : Int) - (a : Int) ≤ 12 := by omega
  clear S0
  go_enter Try.func62, Try.ntmps62
  go_wp2_with fail
  go_loopw [1, 2] (fun t1 t2 wr => t1 = .int .i64 a ∧ t2 = .int .i64 b ∧ wr = w) (fun _ _ _ => 0)
  case atStart => exact ⟨rfl, rfl, rfl⟩
  case round =>
    obtain ⟨rfl, rfl, rfl⟩ := hrel
    go_wp2_with fail
    refine C.out.mono ?_
    rintro e w1 ⟨rfl, U, h1, h2⟩
    go_wp2_with fail
    refine bodyPost_ret (results_none rfl _ _ _) rfl ?_
    exact ⟨rfl, U, h1, h2⟩
end
end
end Go.Proofs.Ytfidamiomnohcaa
