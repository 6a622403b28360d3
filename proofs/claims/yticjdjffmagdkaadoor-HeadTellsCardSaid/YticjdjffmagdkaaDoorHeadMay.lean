/- The small contracts of package head, and of the document's own: which heads may be, how many bytes data may have, whether bytes are erased. Conditions: the slices' cells. -/
import Derived.Test.YticjdjffmagdkaaDoorOwn

set_option linter.unusedVariables false
set_option linter.unusedSimpArgs false
namespace Go.Proofs.YticjdjffmagdkaaDoor
open Go.RowKit

def mayB (K A S G : Int) : Bool := decide (1 ≤ S ∧ S ≤ 1099511627775 ∧ 0 ≤ G ∧ G ≤ 16777215 ∧ ((K = 1 ∨ K = 2) ∨ (K = 3 ∨ K = 4) ∧ A = 0))
theorem mayB_yes {K A S G : Int} (h : 1 ≤ S ∧ S ≤ 1099511627775 ∧ 0 ≤ G ∧ G ≤ 16777215 ∧ ((K = 1 ∨ K = 2) ∨ (K = 3 ∨ K = 4) ∧ A = 0)) : mayB K A S G = true := decide_eq_true h
theorem mayB_no {K A S G : Int} (h : ¬(1 ≤ S ∧ S ≤ 1099511627775 ∧ 0 ≤ G ∧ G ≤ 16777215 ∧ ((K = 1 ∨ K = 2) ∨ (K = 3 ∨ K = 4) ∧ A = 0))) : mayB K A S G = false := decide_eq_false h
theorem mayB_out {K A S G : Int} (h : mayB K A S G = true) : 1 ≤ S ∧ S ≤ 1099511627775 ∧ 0 ≤ G ∧ G ≤ 16777215 ∧ ((K = 1 ∨ K = 2) ∨ (K = 3 ∨ K = 4) ∧ A = 0) := of_decide_eq_true h
def dataB (x : Int) : Bool := decide (128 ≤ x ∧ x ≤ 256)
theorem dataB_yes {x : Int} (h0 : 128 ≤ x) (h1 : x ≤ 256) : dataB x = true := decide_eq_true ⟨h0, h1⟩
theorem dataB_no {x : Int} (h : ¬(128 ≤ x ∧ x ≤ 256)) : dataB x = false := decide_eq_false h

/-- What a call that answers a bool leaves. -/
def SaysB (w : World) (b : Bool) (e : Ending) (w' : World) : Prop := e = .returned (.bool b) ∧ Hid (Below w.heap.size w w')
theorem maybedata_any (x : Int) (w : World) : Calls Tryd.prog 24 #[.int .i64 x] w (SaysB w (dataB x)) := by
  by_cases h0 : 128 ≤ x
  · by_cases h1 : x ≤ 256
    · rw [dataB_yes h0 h1]
      go_enter Tryd.func24, Tryd.ntmps24
      go_wp2
      go_ret
      exact ⟨by simp, Below.refl _ _⟩
    · rw [dataB_no (fun h => h1 h.2)]
      go_enter Tryd.func24, Tryd.ntmps24
      go_wp2
      go_ret
      exact ⟨by simp, Below.refl _ _⟩
  · rw [dataB_no (fun h => h0 h.1)]
    go_enter Tryd.func24, Tryd.ntmps24
    go_wp2
    go_ret
    exact ⟨by simp, Below.refl _ _⟩
set_option maxHeartbeats 4000000 in
theorem headmay_any (K A S G : Int) (w : World) : Calls Tryd.prog 16 #[.agg #[.int .i64 K, .int .u64 A, .int .i64 S, .int .i64 G]] w (SaysB w (mayB K A S G)) := by
  have S1 := Lib.hid (since_alloc (Below.refl w.heap.size w) (.cells #[.int .i64 K, .int .u64 A, .int .i64 S, .int .i64 G] 25))
  by_cases hs0 : S < 1
  · rw [mayB_no (fun h => by omega)]
    go_enter Tryd.func16, Tryd.ntmps16
    go_wp2
    go_ret
    exact ⟨rfl, S1⟩
  by_cases hs1 : 1099511627775 < S
  · rw [mayB_no (fun h => by omega)]
    go_enter Tryd.func16, Tryd.ntmps16
    go_wp2
    go_ret
    exact ⟨rfl, S1⟩
  by_cases hg0 : G < 0
  · rw [mayB_no (fun h => by omega)]
    go_enter Tryd.func16, Tryd.ntmps16
    go_wp2
    go_ret
    exact ⟨rfl, S1⟩
  by_cases hg1 : 16777215 < G
  · rw [mayB_no (fun h => by omega)]
    go_enter Tryd.func16, Tryd.ntmps16
    go_wp2
    go_ret
    exact ⟨rfl, S1⟩
  by_cases hk1 : K = 1
  · rw [mayB_yes ⟨by omega, by omega, by omega, by omega, Or.inl (Or.inl hk1)⟩]
    subst hk1
    go_enter Tryd.func16, Tryd.ntmps16
    go_wp2
    go_ret
    exact ⟨rfl, S1⟩
  by_cases hk2 : K = 2
  · rw [mayB_yes ⟨by omega, by omega, by omega, by omega, Or.inl (Or.inr hk2)⟩]
    subst hk2
    clear hk1
    go_enter Tryd.func16, Tryd.ntmps16
    go_wp2
    go_ret
    exact ⟨rfl, S1⟩
  have HR : Hid ((K = 3 ∨ K = 4) → mayB K A S G = (A == 0)) := fun hk => by
    by_cases ha : A = 0
    · rw [mayB_yes ⟨by omega, by omega, by omega, by omega, Or.inr ⟨hk, ha⟩⟩, ha]; rfl
    · rw [mayB_no (fun h => by omega)]; simp [ha]
  by_cases hk3 : K = 3
  · rw [HR.out (Or.inl hk3)]
    subst hk3
    clear hk1 hk2 HR
    go_enter Tryd.func16, Tryd.ntmps16
    go_wp2
    go_ret
    exact ⟨rfl, S1⟩
  by_cases hk4 : K = 4
  · rw [HR.out (Or.inr hk4)]
    subst hk4
    clear hk1 hk2 hk3 HR
    go_enter Tryd.func16, Tryd.ntmps16
    go_wp2
    go_ret
    exact ⟨rfl, S1⟩
  rw [mayB_no (fun h => by omega)]
  have b1 : (K == 1) = false := by simpa using hk1
  have b2 : (K == 2) = false := by simpa using hk2
  have b3 : (K == 3) = false := by simpa using hk3
  have b4 : (K == 4) = false := by simpa using hk4
  clear HR hk1 hk2 hk3 hk4
  go_enter Tryd.func16, Tryd.ntmps16
  go_wp2
  go_ret
  exact ⟨rfl, S1⟩
set_option maxHeartbeats 8000000 in
theorem refmay_any (K A S G : Int) (w : World) : Calls Tryd.prog 17 #[.agg #[.int .i64 K, .int .u64 A, .int .i64 S, .int .i64 G]] w (SaysB w (mayB K A S G)) := by
  have hsg : S < 1 ∨ (¬ S < 1 ∧ 1099511627775 < S) ∨ (¬ S < 1 ∧ ¬ 1099511627775 < S ∧ G < 0) ∨ (¬ S < 1 ∧ ¬ 1099511627775 < S ∧ ¬ G < 0 ∧ 16777215 < G) ∨ (1 ≤ S ∧ S ≤ 1099511627775 ∧ 0 ≤ G ∧ G ≤ 16777215) := by omega
  have hk : (K < 1 ∨ 4 < K) ∨ ((K = 3 ∨ K = 4) ∧ ¬ A = 0) ∨ (K = 1 ∨ K = 2) ∨ ((K = 3 ∨ K = 4) ∧ A = 0) := by omega
  rcases hk with hk | ⟨hk, ha⟩ | hk | ⟨hk, ha⟩
  · have S1 := Lib.hid (since_alloc (Below.refl w.heap.size w) (.cells #[.int .i64 K, .int .u64 A, .int .i64 S, .int .i64 G] 25))
    rw [mayB_no (fun h => by omega)]
    have b1 : (K == 1) = false := by simp; omega
    have b2 : (K == 2) = false := by simp; omega
    clear hsg
    rcases hk with hk | hk
    all_goals
      go_enter Tryd.func17, Tryd.ntmps17
      go_wp2
      go_ret
      refine ⟨?_, S1⟩
      first | rfl | (simp; done) | (simp; omega)
  · have ba : (A == 0) = false := by simpa using ha
    have S1 := Lib.hid (since_alloc (Below.refl w.heap.size w) (.cells #[.int .i64 K, .int .u64 A, .int .i64 S, .int .i64 G] 25))
    rw [mayB_no (fun h => by omega)]
    clear hsg ha
    rcases hk with rfl | rfl
    all_goals
      go_enter Tryd.func17, Tryd.ntmps17
      go_wp2
      go_ret
      refine ⟨?_, S1⟩
      first | rfl | (simp; done) | (simp; omega)
  · have S1 := Lib.hid (since_alloc (Below.refl w.heap.size w) (.cells #[.int .i64 K, .int .u64 A, .int .i64 S, .int .i64 G] 25))
    rcases hk with rfl | rfl
    all_goals
      rcases hsg with hs | ⟨hs, hs2⟩ | ⟨hs, hs2, hs3⟩ | ⟨hs, hs2, hs3, hs4⟩ | ⟨hs, hs2, hs3, hs4⟩
    all_goals first | rw [mayB_no (fun h => by omega)] | rw [mayB_yes (by omega)]
    all_goals
      go_enter Tryd.func17, Tryd.ntmps17
      go_wp2
      go_ret
      refine ⟨?_, S1⟩
      first | rfl | (simp; done) | (simp; omega)
  · subst ha
    have S1 := Lib.hid (since_alloc (Below.refl w.heap.size w) (.cells #[.int .i64 K, .int .u64 0, .int .i64 S, .int .i64 G] 25))
    rcases hk with rfl | rfl
    all_goals
      rcases hsg with hs | ⟨hs, hs2⟩ | ⟨hs, hs2, hs3⟩ | ⟨hs, hs2, hs3, hs4⟩ | ⟨hs, hs2, hs3, hs4⟩
    all_goals first | rw [mayB_no (fun h => by omega)] | rw [mayB_yes (by omega)]
    all_goals
      go_enter Tryd.func17, Tryd.ntmps17
      go_wp2
      go_ret
      refine ⟨?_, S1⟩
      first | rfl | (simp; done) | (simp; omega)
end Go.Proofs.YticjdjffmagdkaaDoor
