/- Words that layer 4's statements share: heads compared; a size; calls in a region that draws, where nothing old turns. Conditions: what the listed variables hold. -/
import Derived.Test.YticjdjffmagdkaaDoorAwakeHead
set_option linter.unusedVariables false
set_option linter.unusedSimpArgs false
namespace Go.Proofs.YticjdjffmagdkaaDoor
open Go.RowKit Go.Sort

/-- Two heads, as the program has them, are the same. -/
def headB (K A S G K' A' S' G' : Int) : Bool := decide (K = K' ∧ A = A' ∧ S = S' ∧ G = G')
theorem run_eql_head (K A S G K' A' S' G' : Int) (w : World) : (binOp .eql 25 (.agg #[.int .i64 K, .int .u64 A, .int .i64 S, .int .i64 G]) (.agg #[.int .i64 K', .int .u64 A', .int .i64 S', .int .i64 G'])).run Tryd.prog w = .ok (.bool (headB K A S G K' A' S' G')) w := by
  unfold headB
  by_cases hK : K = K' <;> by_cases hA : A = A' <;> by_cases hS : S = S' <;> by_cases hG : G = G' <;> go_simp <;> simp [hK, hA, hS, hG]
theorem run_neq_head (K A S G K' A' S' G' : Int) (w : World) : (binOp .neq 25 (.agg #[.int .i64 K, .int .u64 A, .int .i64 S, .int .i64 G]) (.agg #[.int .i64 K', .int .u64 A', .int .i64 S', .int .i64 G'])).run Tryd.prog w = .ok (.bool (!headB K A S G K' A' S' G')) w := by
  unfold headB
  by_cases hK : K = K' <;> by_cases hA : A = A' <;> by_cases hS : S = S' <;> by_cases hG : G = G' <;> go_simp <;> simp [hK, hA, hS, hG]
theorem headB_self (K A S G : Int) : headB K A S G K A S G = true := decide_eq_true ⟨rfl, rfl, rfl, rfl⟩
/- calls whose answer is a bool, in worlds behind W -/
theorem regrown_bool {P : Program} {f : FuncId} {args : Array Value} {W : World} {d : Nat} {os : Array Obj} {b : Bool} (h : Calls P f args (grow (redrawn W d) os) (SaysB (grow (redrawn W d) os) b)) :
    Calls P f args (grow (redrawn W d) os) fun e w'' => e = .returned (.bool b) ∧ ∃ p : Regrown, w'' = grow (redrawn W p.d) p.os := Calls.regrown_of (h.mono fun e w' h => ⟨h.1, h.2.out⟩)
theorem regrown_awake {W : World} (hT : Tabs W) (hW : Wid W) (d : Nat) (os : Array Obj) : Calls Tryd.prog 8 #[] (grow (redrawn W d) os) fun e w'' => e = .returned (.bool true) ∧ ∃ p : Regrown, w'' = grow (redrawn W p.d) p.os :=
  Calls.regrown_of ((awake_any _ (hT.since (below_regrown W d os)) (hW.since (below_regrown W d os))).mono fun e w' h => ⟨h.1, h.2.out⟩)
theorem regrown_may {W : World} {K A S G : Int} {b : Bool} (hb : mayB K A S G = b) (d : Nat) (os : Array Obj) : Calls Tryd.prog 16 #[.agg #[.int .i64 K, .int .u64 A, .int .i64 S, .int .i64 G]] (grow (redrawn W d) os) fun e w'' => e = .returned (.bool b) ∧ ∃ p : Regrown, w'' = grow (redrawn W p.d) p.os := by
  subst hb
  exact regrown_bool (headmay_any K A S G _)
theorem regrown_same {W : World} {A A' : Option Addr} {n n' c c' : Nat} {bs cs : List Nat} {b : Bool} (hn : n ≤ 900) (hn' : n' ≤ 900) (hA : Bytes W W.heap.size A n bs) (hA' : Bytes W W.heap.size A' n' cs) (hb : sameB bs cs = b) (d : Nat) (os : Array Obj) :
    Calls Tryd.prog 14 #[.slice A n c, .slice A' n' c'] (grow (redrawn W d) os) fun e w'' => e = .returned (.bool b) ∧ ∃ p : Regrown, w'' = grow (redrawn W p.d) p.os := by
  subst hb
  exact Calls.regrown_of (same_any A A' n n' c c' bs cs _ (by omega) (by omega) (hA.since (below_regrown W d os)) (hA'.since (below_regrown W d os)))
/- a size of 128 to 256 -/
theorem size_of (x : Int) : ∃ (q : Int) (N : Nat), lowM x 129 = q ∧ 0 ≤ q ∧ q < 129 ∧ Hid (128 + q = (N : Int)) ∧ 128 ≤ N ∧ N ≤ 256 := by
  have h := lowM_bd x 129 (by omega)
  exact ⟨_, (128 + lowM x 129).toNat, rfl, h.1, h.2, by show _ = _; omega, by omega, by omega⟩
theorem fill_data {x : Int} {N : Nat} (h0 : 128 ≤ N) (h1 : N ≤ 256) : dataB ((fillL x N).length : Int) = true := by rw [fillL_len]; exact dataB_yes (by omega) (by omega)
theorem layO_may {bs : List Nat} {K A S G : Int} (h : dataB (bs.length : Int) = true) : layO bs K A S G = if mayB K A S G = true then some (Hd.page bs (hN K A S G)) else none := by
  unfold layO
  by_cases h2 : mayB K A S G = true
  · rw [if_pos ⟨h, h2⟩, if_pos h2]
  · rw [if_neg (fun hh => h2 hh.2), if_neg h2]
/-- What Lay leaves, opened, where the head may be; where it may not. -/
theorem out_yes {base : Nat} {ps : List Nat} {v : Value} {w : World} (h : OutT OutE base (some ps) v w) : ∃ A n c, v = .tuple #[.slice A n c, .nilIface] ∧ Own w base A n c ps := by
  obtain ⟨x, y, e, ⟨A, n, c, hx, ho⟩, hy⟩ := h
  refine ⟨A, n, c, ?_, ho⟩
  rw [e, hx, show y = .nilIface from hy]
theorem out_no {base : Nat} {v : Value} {w : World} (h : OutT OutE base none v w) : ∃ x, v = .tuple #[.slice none 0 0, .iface 50 x] ∧ Bad w (.iface 50 x) := by
  obtain ⟨x, y, e, hx, hy⟩ := h
  obtain ⟨z, hz⟩ := Bad.ne hy
  refine ⟨z, ?_, hz ▸ hy⟩
  rw [e, hz, show x = .slice none 0 0 from hx]
/- a byte of a row of the call's own, written -/
theorem own_set {W : World} {base g n c : Nat} {us : List Nat} (h : Own W base (some ⟨g, 0, none⟩) n c us) (j : Nat) (Y : Int) (y : Nat) (hY : Y = (y : Int)) (hy : y < 256) :
    Own (W.setCell ⟨g, j, none⟩ (.int .u8 Y)) base (some ⟨g, 0, none⟩) n c (us.set j y) ∧ W.grownBy (W.setCell ⟨g, j, none⟩ (.int .u8 Y)) (some g) := by
  subst hY
  obtain ⟨ho3, hg3⟩ := h.row.stored j (.int .u8 (y : Int))
  refine ⟨⟨?_, fun k => ?_⟩, hg3⟩
  · have e : cellsOf (us.set j y) = (cellsOf us).set j (.int .u8 (y : Int)) := by unfold cellsOf; rw [List.map_set]
    rw [e]; exact ho3
  · rw [List.getD_eq_getElem?_getD, List.getElem?_set]
    have := h.small k
    rw [List.getD_eq_getElem?_getD] at this
    by_cases hjk : j = k
    · by_cases hl : j < us.length <;> simp [hjk] <;> split <;> simp <;> omega
    · simpa [hjk] using this
theorem own_at {W : World} {base n c : Nat} {A : Option Addr} {us : List Nat} (h : Own W base A n c us) (hn : 0 < n) : ∃ g, A = some ⟨g, 0, none⟩ ∧ base ≤ g ∧ g < W.heap.size := by
  rcases h.row.2 with ⟨_, h0⟩ | ⟨g, cap, cur, hv, hbg, hg, _⟩
  · omega
  · injection hv with e1 e2 e3
    exact ⟨g, e1, hbg, (Array.getElem?_eq_some_iff.1 hg).1⟩
theorem getD_set_ (us : List Nat) (j y k : Nat) (hj : j < us.length) : (us.set j y).getD k 0 = if j = k then y else us.getD k 0 := by
  rw [List.getD_eq_getElem?_getD, List.getD_eq_getElem?_getD, List.getElem?_set]
  by_cases h : j = k
  · subst h; simp [hj]
  · simp [h]
theorem own_other {w w' : World} {base g b n c : Nat} {us : List Nat} (h : Own w base (some ⟨g, 0, none⟩) n c us) (hg : w.grownBy w' (some b)) (hn : g ≠ b) : Own w' base (some ⟨g, 0, none⟩) n c us :=
  ⟨h.row.kept hg (Or.inr fun e => hn (by simpa [Value.ownBlock] using e)), h.small⟩
theorem own_cell {w : World} {base g n c : Nat} {us : List Nat} (h : Own w base (some ⟨g, 0, none⟩) n c us) {k : Nat} (hk : k < n) : w.cell? ⟨g, k, none⟩ = some (.int .u8 ((us.getD k 0 : Nat) : Int)) := by
  obtain ⟨ad, e, _, hc⟩ := h.bytes.at_ hk
  obtain rfl := Option.some.inj e
  rw [add_zero_addr] at hc
  exact hc
theorem own_free {w : World} {base g n c : Nat} {us : List Nat} (h : Own w base (some ⟨g, 0, none⟩) n c us) (k : Nat) : w.frozen? ⟨g, k, none⟩ = false := h.row.frozenAt k
end Go.Proofs.YticjdjffmagdkaaDoor
