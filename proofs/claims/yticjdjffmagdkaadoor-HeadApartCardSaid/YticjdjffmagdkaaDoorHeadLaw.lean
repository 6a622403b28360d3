/- Words that layer 4's statements share: heads compared; a size; calls in a region that draws, where nothing old turns. Conditions: what the listed variables hold. -/
import Derived.Test.YticjdjffmagdkaaDoorAwakeHead
set_option linter.unusedVariables false
set_option linter.unusedSimpArgs false
namespace Go.Proofs.YticjdjffmagdkaaDoor
open Go.RowKit Go.Sort

/-- Two heads, as the program has them, are the same. -/
def headB (K A S G K' A' S' G' : Int) : Bool := decide (K = K' ∧ A = A' ∧ S = S' ∧ G = G')
theorem run_eql_head (K A S G K' A' S' G' : Int) (w : World) : (binOp .eql 25 (.agg #[.int .i64 K, .int .u64 A, .int .i64 S, .int .i64 G]) (.agg #[.int .i64 K', .int .u64 A', .int .i64 S', .int .i64 G'])).run Tryd.prog w = .ok (.bool (headB K A S G K' A' S' G')) w := by
  unfold headB
  by_cases hK : K = K' <;> by_cases hA : A = A' <;> by_cases hS : S = S' <;> by_cases hG : G = G' <;> go_simp <;> simp [hK, hA, hS, hG]
theorem run_neq_head (K A S G K' A' S' G' : Int) (w : World) : (binOp .neq 25 (.agg #[.int .i64 K, .int .u64 A, .int .i64 S, .int .i64 G]) (.agg #[.int .i64 K', .int .u64 A', .int .i64 S', .int .i64 G'])).run Tryd.prog w = .ok (.bool (!headB K A S G K' A' S' G')) w := by
  unfold headB
  by_cases hK : K = K' <;> by_cases hA : A = A' <;> by_cases hS : S = S' <;> by_cases hG : G = G' <;> go_simp <;> simp [hK, hA, hS, hG]
theorem headB_self (K A S G : Int) : headB K A S G K A S G = true := decide_eq_true ⟨rfl, rfl, rfl, rfl⟩
/- calls whose answer is a bool, in worlds behind W -/
theorem regrown_bool {P : Program} {f : FuncId} {args : Array Value} {W : World} {d : Nat} {os : Array Obj} {b : Bool} (h : Calls P f args (grow (redrawn W d) os) (SaysB (grow (redrawn W d) os) b)) :
    Calls P f args (grow (redrawn W d) os) fun e w'' => e = .returned (.bool b) ∧ ∃ p : Regrown, w'' = grow (redrawn W p.d) p.os := Calls.regrown_of (h.mono fun e w' h => ⟨h.1, h.2.out⟩)
theorem regrown_awake {W : World} (hT : Tabs W) (hW : Wid W) (d : Nat) (os : Array Obj) : Calls Tryd.prog 8 #[] (grow (redrawn W d) os) fun e w'' => e = .returned (.bool true) ∧ ∃ p : Regrown, w'' = grow (redrawn W p.d) p.os :=
  Calls.regrown_of ((awake_any _ (hT.since (below_regrown W d os)) (hW.since (below_regrown W d os))).mono fun e w' h => ⟨h.1, h.2.out⟩)
theorem regrown_may {W : World} {K A S G : Int} {b : Bool} (hb : mayB K A S G = b) (d : Nat) (os : Array Obj) : Calls Tryd.prog 16 #[.agg #[.int .i64 K, .int .u64 A, .int .i64 S, .int .i64 G]] (grow (redrawn W d) os) fun e w'' => e = .returned (.bool b) ∧ ∃ p : Regrown, w'' = grow (redrawn W p.d) p.os := by
  subst hb
  exact regrown_bool (headmay_any K A S G _)
theorem regrown_same {W : World} {A A' : Option Addr} {n n' c c' : Nat} {bs cs : List Nat} {b : Bool} (hn : n ≤ 900) (hn' : n' ≤ 900) (hA : Bytes W W.heap.size A n bs) (hA' : Bytes W W.heap.size A' n' cs) (hb : sameB bs cs = b) (d : Nat) (os : Array Obj) :
    Calls Tryd.prog 14 #[.slice A n c, .slice A' n' c'] (grow (redrawn W d) os) fun e w'' => e = .returned (.bool b) ∧ ∃ p : Regrown, w'' = grow (redrawn W p.d) p.os := by
  subst hb
  exact Calls.regrown_of (same_any A A' n n' c c' bs cs _ (by omega) (by omega) (hA.since (below_regrown W d os)) (hA'.since (below_regrown W d os)))
/- a size of 128 to 256 -/
theorem size_of (x : Int) : ∃ (q : Int) (N : Nat), lowM x 129 = q ∧ 0 ≤ q ∧ q < 129 ∧ Hid (128 + q = (N : Int)) ∧ 128 ≤ N ∧ N ≤ 256 := by
  have h := lowM_bd x 129 (by omega)
  exact ⟨_, (128 + lowM x 129).toNat, rfl, h.1, h.2, by show _ = _; omega, by omega, by omega⟩
theorem fill_data {x : Int} {N : Nat} (h0 : 128 ≤ N) (h1 : N ≤ 256) : dataB ((fillL x N).length : Int) = true := by rw [fillL_len]; exact dataB_yes (by omega) (by omega)
theorem layO_may {bs : List Nat} {K A S G : Int} (h : dataB (bs.length : Int) = true) : layO bs K A S G = if mayB K A S G = true then some (Hd.page bs (hN K A S G)) else none := by
  unfold layO
  by_cases h2 : mayB K A S G = true
  · rw [if_pos ⟨h, h2⟩, if_pos h2]
  · rw [if_neg (fun hh => h2 hh.2), if_neg h2]
/-- What Lay leaves, opened, where the head may be; where it may not. -/
theorem out_yes {base : Nat} {ps : List Nat} {v : Value} {w : World} (h : OutT OutE base (some ps) v w) : ∃ A n c, v = .tuple #[.slice A n c, .nilIface] ∧ Own w base A n c ps := by
  obtain ⟨x, y, e, ⟨A, n, c, hx, ho⟩, hy⟩ := h
  refine ⟨A, n, c, ?_, ho⟩
  rw [e, hx, show y = .nilIface from hy]
theorem out_no {base : Nat} {v : Value} {w : World} (h : OutT OutE base none v w) : ∃ x, v = .tuple #[.slice none 0 0, .iface 50 x] ∧ Bad w (.iface 50 x) := by
  obtain ⟨x, y, e, hx, hy⟩ := h
  obtain ⟨z, hz⟩ := Bad.ne hy
  refine ⟨z, ?_, hz ▸ hy⟩
  rw [e, hz, show x = .slice none 0 0 from hx]
end Go.Proofs.YticjdjffmagdkaaDoor
