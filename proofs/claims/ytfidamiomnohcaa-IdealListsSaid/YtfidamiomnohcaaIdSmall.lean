/- The landed ideal's New, May, isOfAnswer. No conditions. -/
import Derived.Test.YtfidamiomnohcaaIdBeh
set_option linter.unusedVariables false
set_option linter.unusedSimpArgs false
set_option maxRecDepth 20000
namespace Go.Proofs.Ytfidamiomnohcaa
open Go.RowKit

def ansT (k e : Int) (n : Nat) (d : Bool) (zn : Nat) : Bool :=
  if k == 1 then !(e != 0) && !(decide (0 < (n : Int)) || d) && !(decide (0 < (zn : Int)))
  else if k == 2 then !(e != 0) && !(decide (0 < (zn : Int)))
  else if k == 3 then !(e != 0) && !(decide (0 < (n : Int)) || d)
  else if k == 4 then !(decide (0 < (n : Int)) || d) && !(decide (0 < (zn : Int)))
  else false
set_option maxHeartbeats 4000000 in
theorem answer_any (y : Rm) (w : World) : Calls Try.prog 34 #[repV y] w fun e w' => e = .returned (.bool (ansT y.k y.e y.n y.d y.zn)) ∧ Below w.heap.size w w' := by
  rcases y with ⟨k, e, A, n, c, d, zA, zn, zc⟩
  have S0 : Hid (Below w.heap.size w (w.alloc (.cells #[.int .i64 k, .int .i64 e, .slice A n c, .bool d, .slice zA zn zc] 36))) := (Below.refl _ _).alloc (Nat.le_refl _) _
  obtain ⟨q, HQ⟩ : ∃ q, Hid (ansT k e n d zn = q) := ⟨_, rfl⟩
  show Calls _ _ #[.agg #[.int .i64 k, .int .i64 e, .slice A n c, .bool d, .slice zA zn zc]] _ fun e' w' => e' = .returned (.bool (ansT k e n d zn)) ∧ _
  rw [HQ.out]
  rcases k1 : (k == 1) with _ | _
  · rcases k2 : (k == 2) with _ | _
    · rcases k3 : (k == 3) with _ | _
      · rcases k4 : (k == 4) with _ | _
        · rcases hn : decide ((0 : Int) < (n : Int)) with _ | _
          · rcases hd : d with _ | _
            · rcases he : (e != 0) with _ | _
              · rcases hz : decide ((0 : Int) < (zn : Int)) with _ | _
                · obtain rfl : q = false := by rw [← HQ.out]; unfold ansT; simp only [k1, k2, k3, k4, hn, hd, he, hz]; simp
                  have e0 : ¬ ((0 : Int) < (n : Int)) := by simpa using hn
                  have e1 : ¬ ((0 : Int) < (zn : Int)) := by simpa using hz
                  have e2 : decide (0 < n) = false := by simpa using hn
                  have e3 : decide (0 < zn) = false := by simpa using hz
                  go_enter Try.func34, Try.ntmps34
                  go_wp2_with fail
                  go_ret
                  exact ⟨rfl, (Below.refl _ _).alloc (Nat.le_refl _) _⟩
                · obtain rfl : q = false := by rw [← HQ.out]; unfold ansT; simp only [k1, k2, k3, k4, hn, hd, he, hz]; simp
                  have e0 : ¬ ((0 : Int) < (n : Int)) := by simpa using hn
                  have e1 : ((0 : Int) < (zn : Int)) := by simpa using hz
                  have e2 : decide (0 < n) = false := by simpa using hn
                  have e3 : decide (0 < zn) = true := by simpa using hz
                  go_enter Try.func34, Try.ntmps34
                  go_wp2_with fail
                  go_ret
                  exact ⟨rfl, (Below.refl _ _).alloc (Nat.le_refl _) _⟩
              · rcases hz : decide ((0 : Int) < (zn : Int)) with _ | _
                · obtain rfl : q = false := by rw [← HQ.out]; unfold ansT; simp only [k1, k2, k3, k4, hn, hd, he, hz]; simp
                  have e0 : ¬ ((0 : Int) < (n : Int)) := by simpa using hn
                  have e1 : ¬ ((0 : Int) < (zn : Int)) := by simpa using hz
                  have e2 : decide (0 < n) = false := by simpa using hn
                  have e3 : decide (0 < zn) = false := by simpa using hz
                  go_enter Try.func34, Try.ntmps34
                  go_wp2_with fail
                  go_ret
                  exact ⟨rfl, (Below.refl _ _).alloc (Nat.le_refl _) _⟩
                · obtain rfl : q = false := by rw [← HQ.out]; unfold ansT; simp only [k1, k2, k3, k4, hn, hd, he, hz]; simp
                  have e0 : ¬ ((0 : Int) < (n : Int)) := by simpa using hn
                  have e1 : ((0 : Int) < (zn : Int)) := by simpa using hz
                  have e2 : decide (0 < n) = false := by simpa using hn
                  have e3 : decide (0 < zn) = true := by simpa using hz
                  go_enter Try.func34, Try.ntmps34
                  go_wp2_with fail
                  go_ret
                  exact ⟨rfl, (Below.refl _ _).alloc (Nat.le_refl _) _⟩
            · rcases he : (e != 0) with _ | _
              · rcases hz : decide ((0 : Int) < (zn : Int)) with _ | _
                · obtain rfl : q = false := by rw [← HQ.out]; unfold ansT; simp only [k1, k2, k3, k4, hn, hd, he, hz]; simp
                  have e0 : ¬ ((0 : Int) < (n : Int)) := by simpa using hn
                  have e1 : ¬ ((0 : Int) < (zn : Int)) := by simpa using hz
                  have e2 : decide (0 < n) = false := by simpa using hn
                  have e3 : decide (0 < zn) = false := by simpa using hz
                  go_enter Try.func34, Try.ntmps34
                  go_wp2_with fail
                  go_ret
                  exact ⟨rfl, (Below.refl _ _).alloc (Nat.le_refl _) _⟩
                · obtain rfl : q = false := by rw [← HQ.out]; unfold ansT; simp only [k1, k2, k3, k4, hn, hd, he, hz]; simp
                  have e0 : ¬ ((0 : Int) < (n : Int)) := by simpa using hn
                  have e1 : ((0 : Int) < (zn : Int)) := by simpa using hz
                  have e2 : decide (0 < n) = false := by simpa using hn
                  have e3 : decide (0 < zn) = true := by simpa using hz
                  go_enter Try.func34, Try.ntmps34
                  go_wp2_with fail
                  go_ret
                  exact ⟨rfl, (Below.refl _ _).alloc (Nat.le_refl _) _⟩
              · rcases hz : decide ((0 : Int) < (zn : Int)) with _ | _
                · obtain rfl : q = false := by rw [← HQ.out]; unfold ansT; simp only [k1, k2, k3, k4, hn, hd, he, hz]; simp
                  have e0 : ¬ ((0 : Int) < (n : Int)) := by simpa using hn
                  have e1 : ¬ ((0 : Int) < (zn : Int)) := by simpa using hz
                  have e2 : decide (0 < n) = false := by simpa using hn
                  have e3 : decide (0 < zn) = false := by simpa using hz
                  go_enter Try.func34, Try.ntmps34
                  go_wp2_with fail
                  go_ret
                  exact ⟨rfl, (Below.refl _ _).alloc (Nat.le_refl _) _⟩
                · obtain rfl : q = false := by rw [← HQ.out]; unfold ansT; simp only [k1, k2, k3, k4, hn, hd, he, hz]; simp
                  have e0 : ¬ ((0 : Int) < (n : Int)) := by simpa using hn
                  have e1 : ((0 : Int) < (zn : Int)) := by simpa using hz
                  have e2 : decide (0 < n) = false := by simpa using hn
                  have e3 : decide (0 < zn) = true := by simpa using hz
                  go_enter Try.func34, Try.ntmps34
                  go_wp2_with fail
                  go_ret
                  exact ⟨rfl, (Below.refl _ _).alloc (Nat.le_refl _) _⟩
          · rcases he : (e != 0) with _ | _
            · rcases hz : decide ((0 : Int) < (zn : Int)) with _ | _
              · obtain rfl : q = false := by rw [← HQ.out]; unfold ansT; simp only [k1, k2, k3, k4, hn, he, hz]; simp
                have e0 : ((0 : Int) < (n : Int)) := by simpa using hn
                have e1 : ¬ ((0 : Int) < (zn : Int)) := by simpa using hz
                have e2 : decide (0 < n) = true := by simpa using hn
                have e3 : decide (0 < zn) = false := by simpa using hz
                go_enter Try.func34, Try.ntmps34
                go_wp2_with fail
                go_ret
                exact ⟨rfl, (Below.refl _ _).alloc (Nat.le_refl _) _⟩
              · obtain rfl : q = false := by rw [← HQ.out]; unfold ansT; simp only [k1, k2, k3, k4, hn, he, hz]; simp
                have e0 : ((0 : Int) < (n : Int)) := by simpa using hn
                have e1 : ((0 : Int) < (zn : Int)) := by simpa using hz
                have e2 : decide (0 < n) = true := by simpa using hn
                have e3 : decide (0 < zn) = true := by simpa using hz
                go_enter Try.func34, Try.ntmps34
                go_wp2_with fail
                go_ret
                exact ⟨rfl, (Below.refl _ _).alloc (Nat.le_refl _) _⟩
            · rcases hz : decide ((0 : Int) < (zn : Int)) with _ | _
              · obtain rfl : q = false := by rw [← HQ.out]; unfold ansT; simp only [k1, k2, k3, k4, hn, he, hz]; simp
                have e0 : ((0 : Int) < (n : Int)) := by simpa using hn
                have e1 : ¬ ((0 : Int) < (zn : Int)) := by simpa using hz
                have e2 : decide (0 < n) = true := by simpa using hn
                have e3 : decide (0 < zn) = false := by simpa using hz
                go_enter Try.func34, Try.ntmps34
                go_wp2_with fail
                go_ret
                exact ⟨rfl, (Below.refl _ _).alloc (Nat.le_refl _) _⟩
              · obtain rfl : q = false := by rw [← HQ.out]; unfold ansT; simp only [k1, k2, k3, k4, hn, he, hz]; simp
                have e0 : ((0 : Int) < (n : Int)) := by simpa using hn
                have e1 : ((0 : Int) < (zn : Int)) := by simpa using hz
                have e2 : decide (0 < n) = true := by simpa using hn
                have e3 : decide (0 < zn) = true := by simpa using hz
                go_enter Try.func34, Try.ntmps34
                go_wp2_with fail
                go_ret
                exact ⟨rfl, (Below.refl _ _).alloc (Nat.le_refl _) _⟩
        · rcases hn : decide ((0 : Int) < (n : Int)) with _ | _
          · rcases hd : d with _ | _
            · rcases he : (e != 0) with _ | _
              · rcases hz : decide ((0 : Int) < (zn : Int)) with _ | _
                · obtain rfl : q = true := by rw [← HQ.out]; unfold ansT; simp only [k1, k2, k3, k4, hn, hd, he, hz]; simp
                  have e0 : ¬ ((0 : Int) < (n : Int)) := by simpa using hn
                  have e1 : ¬ ((0 : Int) < (zn : Int)) := by simpa using hz
                  have e2 : decide (0 < n) = false := by simpa using hn
                  have e3 : decide (0 < zn) = false := by simpa using hz
                  go_enter Try.func34, Try.ntmps34
                  go_wp2_with fail
                  go_ret
                  exact ⟨rfl, (Below.refl _ _).alloc (Nat.le_refl _) _⟩
                · obtain rfl : q = false := by rw [← HQ.out]; unfold ansT; simp only [k1, k2, k3, k4, hn, hd, he, hz]; simp
                  have e0 : ¬ ((0 : Int) < (n : Int)) := by simpa using hn
                  have e1 : ((0 : Int) < (zn : Int)) := by simpa using hz
                  have e2 : decide (0 < n) = false := by simpa using hn
                  have e3 : decide (0 < zn) = true := by simpa using hz
                  go_enter Try.func34, Try.ntmps34
                  go_wp2_with fail
                  go_ret
                  exact ⟨rfl, (Below.refl _ _).alloc (Nat.le_refl _) _⟩
              · rcases hz : decide ((0 : Int) < (zn : Int)) with _ | _
                · obtain rfl : q = true := by rw [← HQ.out]; unfold ansT; simp only [k1, k2, k3, k4, hn, hd, he, hz]; simp
                  have e0 : ¬ ((0 : Int) < (n : Int)) := by simpa using hn
                  have e1 : ¬ ((0 : Int) < (zn : Int)) := by simpa using hz
                  have e2 : decide (0 < n) = false := by simpa using hn
                  have e3 : decide (0 < zn) = false := by simpa using hz
                  go_enter Try.func34, Try.ntmps34
                  go_wp2_with fail
                  go_ret
                  exact ⟨rfl, (Below.refl _ _).alloc (Nat.le_refl _) _⟩
                · obtain rfl : q = false := by rw [← HQ.out]; unfold ansT; simp only [k1, k2, k3, k4, hn, hd, he, hz]; simp
                  have e0 : ¬ ((0 : Int) < (n : Int)) := by simpa using hn
                  have e1 : ((0 : Int) < (zn : Int)) := by simpa using hz
                  have e2 : decide (0 < n) = false := by simpa using hn
                  have e3 : decide (0 < zn) = true := by simpa using hz
                  go_enter Try.func34, Try.ntmps34
                  go_wp2_with fail
                  go_ret
                  exact ⟨rfl, (Below.refl _ _).alloc (Nat.le_refl _) _⟩
            · rcases he : (e != 0) with _ | _
              · rcases hz : decide ((0 : Int) < (zn : Int)) with _ | _
                · obtain rfl : q = false := by rw [← HQ.out]; unfold ansT; simp only [k1, k2, k3, k4, hn, hd, he, hz]; simp
                  have e0 : ¬ ((0 : Int) < (n : Int)) := by simpa using hn
                  have e1 : ¬ ((0 : Int) < (zn : Int)) := by simpa using hz
                  have e2 : decide (0 < n) = false := by simpa using hn
                  have e3 : decide (0 < zn) = false := by simpa using hz
                  go_enter Try.func34, Try.ntmps34
                  go_wp2_with fail
                  go_ret
                  exact ⟨rfl, (Below.refl _ _).alloc (Nat.le_refl _) _⟩
                · obtain rfl : q = false := by rw [← HQ.out]; unfold ansT; simp only [k1, k2, k3, k4, hn, hd, he, hz]; simp
                  have e0 : ¬ ((0 : Int) < (n : Int)) := by simpa using hn
                  have e1 : ((0 : Int) < (zn : Int)) := by simpa using hz
                  have e2 : decide (0 < n) = false := by simpa using hn
                  have e3 : decide (0 < zn) = true := by simpa using hz
                  go_enter Try.func34, Try.ntmps34
                  go_wp2_with fail
                  go_ret
                  exact ⟨rfl, (Below.refl _ _).alloc (Nat.le_refl _) _⟩
              · rcases hz : decide ((0 : Int) < (zn : Int)) with _ | _
                · obtain rfl : q = false := by rw [← HQ.out]; unfold ansT; simp only [k1, k2, k3, k4, hn, hd, he, hz]; simp
                  have e0 : ¬ ((0 : Int) < (n : Int)) := by simpa using hn
                  have e1 : ¬ ((0 : Int) < (zn : Int)) := by simpa using hz
                  have e2 : decide (0 < n) = false := by simpa using hn
                  have e3 : decide (0 < zn) = false := by simpa using hz
                  go_enter Try.func34, Try.ntmps34
                  go_wp2_with fail
                  go_ret
                  exact ⟨rfl, (Below.refl _ _).alloc (Nat.le_refl _) _⟩
                · obtain rfl : q = false := by rw [← HQ.out]; unfold ansT; simp only [k1, k2, k3, k4, hn, hd, he, hz]; simp
                  have e0 : ¬ ((0 : Int) < (n : Int)) := by simpa using hn
                  have e1 : ((0 : Int) < (zn : Int)) := by simpa using hz
                  have e2 : decide (0 < n) = false := by simpa using hn
                  have e3 : decide (0 < zn) = true := by simpa using hz
                  go_enter Try.func34, Try.ntmps34
                  go_wp2_with fail
                  go_ret
                  exact ⟨rfl, (Below.refl _ _).alloc (Nat.le_refl _) _⟩
          · rcases he : (e != 0) with _ | _
            · rcases hz : decide ((0 : Int) < (zn : Int)) with _ | _
              · obtain rfl : q = false := by rw [← HQ.out]; unfold ansT; simp only [k1, k2, k3, k4, hn, he, hz]; simp
                have e0 : ((0 : Int) < (n : Int)) := by simpa using hn
                have e1 : ¬ ((0 : Int) < (zn : Int)) := by simpa using hz
                have e2 : decide (0 < n) = true := by simpa using hn
                have e3 : decide (0 < zn) = false := by simpa using hz
                go_enter Try.func34, Try.ntmps34
                go_wp2_with fail
                go_ret
                exact ⟨rfl, (Below.refl _ _).alloc (Nat.le_refl _) _⟩
              · obtain rfl : q = false := by rw [← HQ.out]; unfold ansT; simp only [k1, k2, k3, k4, hn, he, hz]; simp
                have e0 : ((0 : Int) < (n : Int)) := by simpa using hn
                have e1 : ((0 : Int) < (zn : Int)) := by simpa using hz
                have e2 : decide (0 < n) = true := by simpa using hn
                have e3 : decide (0 < zn) = true := by simpa using hz
                go_enter Try.func34, Try.ntmps34
                go_wp2_with fail
                go_ret
                exact ⟨rfl, (Below.refl _ _).alloc (Nat.le_refl _) _⟩
            · rcases hz : decide ((0 : Int) < (zn : Int)) with _ | _
              · obtain rfl : q = false := by rw [← HQ.out]; unfold ansT; simp only [k1, k2, k3, k4, hn, he, hz]; simp
                have e0 : ((0 : Int) < (n : Int)) := by simpa using hn
                have e1 : ¬ ((0 : Int) < (zn : Int)) := by simpa using hz
                have e2 : decide (0 < n) = true := by simpa using hn
                have e3 : decide (0 < zn) = false := by simpa using hz
                go_enter Try.func34, Try.ntmps34
                go_wp2_with fail
                go_ret
                exact ⟨rfl, (Below.refl _ _).alloc (Nat.le_refl _) _⟩
              · obtain rfl : q = false := by rw [← HQ.out]; unfold ansT; simp only [k1, k2, k3, k4, hn, he, hz]; simp
                have e0 : ((0 : Int) < (n : Int)) := by simpa using hn
                have e1 : ((0 : Int) < (zn : Int)) := by simpa using hz
                have e2 : decide (0 < n) = true := by simpa using hn
                have e3 : decide (0 < zn) = true := by simpa using hz
                go_enter Try.func34, Try.ntmps34
                go_wp2_with fail
                go_ret
                exact ⟨rfl, (Below.refl _ _).alloc (Nat.le_refl _) _⟩
      · rcases hn : decide ((0 : Int) < (n : Int)) with _ | _
        · rcases hd : d with _ | _
          · rcases he : (e != 0) with _ | _
            · rcases hz : decide ((0 : Int) < (zn : Int)) with _ | _
              · obtain rfl : q = true := by rw [← HQ.out]; unfold ansT; simp only [k1, k2, k3, hn, hd, he, hz]; simp
                have e0 : ¬ ((0 : Int) < (n : Int)) := by simpa using hn
                have e1 : ¬ ((0 : Int) < (zn : Int)) := by simpa using hz
                have e2 : decide (0 < n) = false := by simpa using hn
                have e3 : decide (0 < zn) = false := by simpa using hz
                go_enter Try.func34, Try.ntmps34
                go_wp2_with fail
                go_ret
                exact ⟨rfl, (Below.refl _ _).alloc (Nat.le_refl _) _⟩
              · obtain rfl : q = true := by rw [← HQ.out]; unfold ansT; simp only [k1, k2, k3, hn, hd, he, hz]; simp
                have e0 : ¬ ((0 : Int) < (n : Int)) := by simpa using hn
                have e1 : ((0 : Int) < (zn : Int)) := by simpa using hz
                have e2 : decide (0 < n) = false := by simpa using hn
                have e3 : decide (0 < zn) = true := by simpa using hz
                go_enter Try.func34, Try.ntmps34
                go_wp2_with fail
                go_ret
                exact ⟨rfl, (Below.refl _ _).alloc (Nat.le_refl _) _⟩
            · rcases hz : decide ((0 : Int) < (zn : Int)) with _ | _
              · obtain rfl : q = false := by rw [← HQ.out]; unfold ansT; simp only [k1, k2, k3, hn, hd, he, hz]; simp
                have e0 : ¬ ((0 : Int) < (n : Int)) := by simpa using hn
                have e1 : ¬ ((0 : Int) < (zn : Int)) := by simpa using hz
                have e2 : decide (0 < n) = false := by simpa using hn
                have e3 : decide (0 < zn) = false := by simpa using hz
                go_enter Try.func34, Try.ntmps34
                go_wp2_with fail
                go_ret
                exact ⟨rfl, (Below.refl _ _).alloc (Nat.le_refl _) _⟩
              · obtain rfl : q = false := by rw [← HQ.out]; unfold ansT; simp only [k1, k2, k3, hn, hd, he, hz]; simp
                have e0 : ¬ ((0 : Int) < (n : Int)) := by simpa using hn
                have e1 : ((0 : Int) < (zn : Int)) := by simpa using hz
                have e2 : decide (0 < n) = false := by simpa using hn
                have e3 : decide (0 < zn) = true := by simpa using hz
                go_enter Try.func34, Try.ntmps34
                go_wp2_with fail
                go_ret
                exact ⟨rfl, (Below.refl _ _).alloc (Nat.le_refl _) _⟩
          · rcases he : (e != 0) with _ | _
            · rcases hz : decide ((0 : Int) < (zn : Int)) with _ | _
              · obtain rfl : q = false := by rw [← HQ.out]; unfold ansT; simp only [k1, k2, k3, hn, hd, he, hz]; simp
                have e0 : ¬ ((0 : Int) < (n : Int)) := by simpa using hn
                have e1 : ¬ ((0 : Int) < (zn : Int)) := by simpa using hz
                have e2 : decide (0 < n) = false := by simpa using hn
                have e3 : decide (0 < zn) = false := by simpa using hz
                go_enter Try.func34, Try.ntmps34
                go_wp2_with fail
                go_ret
                exact ⟨rfl, (Below.refl _ _).alloc (Nat.le_refl _) _⟩
              · obtain rfl : q = false := by rw [← HQ.out]; unfold ansT; simp only [k1, k2, k3, hn, hd, he, hz]; simp
                have e0 : ¬ ((0 : Int) < (n : Int)) := by simpa using hn
                have e1 : ((0 : Int) < (zn : Int)) := by simpa using hz
                have e2 : decide (0 < n) = false := by simpa using hn
                have e3 : decide (0 < zn) = true := by simpa using hz
                go_enter Try.func34, Try.ntmps34
                go_wp2_with fail
                go_ret
                exact ⟨rfl, (Below.refl _ _).alloc (Nat.le_refl _) _⟩
            · rcases hz : decide ((0 : Int) < (zn : Int)) with _ | _
              · obtain rfl : q = false := by rw [← HQ.out]; unfold ansT; simp only [k1, k2, k3, hn, hd, he, hz]; simp
                have e0 : ¬ ((0 : Int) < (n : Int)) := by simpa using hn
                have e1 : ¬ ((0 : Int) < (zn : Int)) := by simpa using hz
                have e2 : decide (0 < n) = false := by simpa using hn
                have e3 : decide (0 < zn) = false := by simpa using hz
                go_enter Try.func34, Try.ntmps34
                go_wp2_with fail
                go_ret
                exact ⟨rfl, (Below.refl _ _).alloc (Nat.le_refl _) _⟩
              · obtain rfl : q = false := by rw [← HQ.out]; unfold ansT; simp only [k1, k2, k3, hn, hd, he, hz]; simp
                have e0 : ¬ ((0 : Int) < (n : Int)) := by simpa using hn
                have e1 : ((0 : Int) < (zn : Int)) := by simpa using hz
                have e2 : decide (0 < n) = false := by simpa using hn
                have e3 : decide (0 < zn) = true := by simpa using hz
                go_enter Try.func34, Try.ntmps34
                go_wp2_with fail
                go_ret
                exact ⟨rfl, (Below.refl _ _).alloc (Nat.le_refl _) _⟩
        · rcases he : (e != 0) with _ | _
          · rcases hz : decide ((0 : Int) < (zn : Int)) with _ | _
            · obtain rfl : q = false := by rw [← HQ.out]; unfold ansT; simp only [k1, k2, k3, hn, he, hz]; simp
              have e0 : ((0 : Int) < (n : Int)) := by simpa using hn
              have e1 : ¬ ((0 : Int) < (zn : Int)) := by simpa using hz
              have e2 : decide (0 < n) = true := by simpa using hn
              have e3 : decide (0 < zn) = false := by simpa using hz
              go_enter Try.func34, Try.ntmps34
              go_wp2_with fail
              go_ret
              exact ⟨rfl, (Below.refl _ _).alloc (Nat.le_refl _) _⟩
            · obtain rfl : q = false := by rw [← HQ.out]; unfold ansT; simp only [k1, k2, k3, hn, he, hz]; simp
              have e0 : ((0 : Int) < (n : Int)) := by simpa using hn
              have e1 : ((0 : Int) < (zn : Int)) := by simpa using hz
              have e2 : decide (0 < n) = true := by simpa using hn
              have e3 : decide (0 < zn) = true := by simpa using hz
              go_enter Try.func34, Try.ntmps34
              go_wp2_with fail
              go_ret
              exact ⟨rfl, (Below.refl _ _).alloc (Nat.le_refl _) _⟩
          · rcases hz : decide ((0 : Int) < (zn : Int)) with _ | _
            · obtain rfl : q = false := by rw [← HQ.out]; unfold ansT; simp only [k1, k2, k3, hn, he, hz]; simp
              have e0 : ((0 : Int) < (n : Int)) := by simpa using hn
              have e1 : ¬ ((0 : Int) < (zn : Int)) := by simpa using hz
              have e2 : decide (0 < n) = true := by simpa using hn
              have e3 : decide (0 < zn) = false := by simpa using hz
              go_enter Try.func34, Try.ntmps34
              go_wp2_with fail
              go_ret
              exact ⟨rfl, (Below.refl _ _).alloc (Nat.le_refl _) _⟩
            · obtain rfl : q = false := by rw [← HQ.out]; unfold ansT; simp only [k1, k2, k3, hn, he, hz]; simp
              have e0 : ((0 : Int) < (n : Int)) := by simpa using hn
              have e1 : ((0 : Int) < (zn : Int)) := by simpa using hz
              have e2 : decide (0 < n) = true := by simpa using hn
              have e3 : decide (0 < zn) = true := by simpa using hz
              go_enter Try.func34, Try.ntmps34
              go_wp2_with fail
              go_ret
              exact ⟨rfl, (Below.refl _ _).alloc (Nat.le_refl _) _⟩
    · rcases hn : decide ((0 : Int) < (n : Int)) with _ | _
      · rcases hd : d with _ | _
        · rcases he : (e != 0) with _ | _
          · rcases hz : decide ((0 : Int) < (zn : Int)) with _ | _
            · obtain rfl : q = true := by rw [← HQ.out]; unfold ansT; simp only [k1, k2, hn, hd, he, hz]; simp
              have e0 : ¬ ((0 : Int) < (n : Int)) := by simpa using hn
              have e1 : ¬ ((0 : Int) < (zn : Int)) := by simpa using hz
              have e2 : decide (0 < n) = false := by simpa using hn
              have e3 : decide (0 < zn) = false := by simpa using hz
              go_enter Try.func34, Try.ntmps34
              go_wp2_with fail
              go_ret
              exact ⟨rfl, (Below.refl _ _).alloc (Nat.le_refl _) _⟩
            · obtain rfl : q = false := by rw [← HQ.out]; unfold ansT; simp only [k1, k2, hn, hd, he, hz]; simp
              have e0 : ¬ ((0 : Int) < (n : Int)) := by simpa using hn
              have e1 : ((0 : Int) < (zn : Int)) := by simpa using hz
              have e2 : decide (0 < n) = false := by simpa using hn
              have e3 : decide (0 < zn) = true := by simpa using hz
              go_enter Try.func34, Try.ntmps34
              go_wp2_with fail
              go_ret
              exact ⟨rfl, (Below.refl _ _).alloc (Nat.le_refl _) _⟩
          · rcases hz : decide ((0 : Int) < (zn : Int)) with _ | _
            · obtain rfl : q = false := by rw [← HQ.out]; unfold ansT; simp only [k1, k2, hn, hd, he, hz]; simp
              have e0 : ¬ ((0 : Int) < (n : Int)) := by simpa using hn
              have e1 : ¬ ((0 : Int) < (zn : Int)) := by simpa using hz
              have e2 : decide (0 < n) = false := by simpa using hn
              have e3 : decide (0 < zn) = false := by simpa using hz
              go_enter Try.func34, Try.ntmps34
              go_wp2_with fail
              go_ret
              exact ⟨rfl, (Below.refl _ _).alloc (Nat.le_refl _) _⟩
            · obtain rfl : q = false := by rw [← HQ.out]; unfold ansT; simp only [k1, k2, hn, hd, he, hz]; simp
              have e0 : ¬ ((0 : Int) < (n : Int)) := by simpa using hn
              have e1 : ((0 : Int) < (zn : Int)) := by simpa using hz
              have e2 : decide (0 < n) = false := by simpa using hn
              have e3 : decide (0 < zn) = true := by simpa using hz
              go_enter Try.func34, Try.ntmps34
              go_wp2_with fail
              go_ret
              exact ⟨rfl, (Below.refl _ _).alloc (Nat.le_refl _) _⟩
        · rcases he : (e != 0) with _ | _
          · rcases hz : decide ((0 : Int) < (zn : Int)) with _ | _
            · obtain rfl : q = true := by rw [← HQ.out]; unfold ansT; simp only [k1, k2, hn, hd, he, hz]; simp
              have e0 : ¬ ((0 : Int) < (n : Int)) := by simpa using hn
              have e1 : ¬ ((0 : Int) < (zn : Int)) := by simpa using hz
              have e2 : decide (0 < n) = false := by simpa using hn
              have e3 : decide (0 < zn) = false := by simpa using hz
              go_enter Try.func34, Try.ntmps34
              go_wp2_with fail
              go_ret
              exact ⟨rfl, (Below.refl _ _).alloc (Nat.le_refl _) _⟩
            · obtain rfl : q = false := by rw [← HQ.out]; unfold ansT; simp only [k1, k2, hn, hd, he, hz]; simp
              have e0 : ¬ ((0 : Int) < (n : Int)) := by simpa using hn
              have e1 : ((0 : Int) < (zn : Int)) := by simpa using hz
              have e2 : decide (0 < n) = false := by simpa using hn
              have e3 : decide (0 < zn) = true := by simpa using hz
              go_enter Try.func34, Try.ntmps34
              go_wp2_with fail
              go_ret
              exact ⟨rfl, (Below.refl _ _).alloc (Nat.le_refl _) _⟩
          · rcases hz : decide ((0 : Int) < (zn : Int)) with _ | _
            · obtain rfl : q = false := by rw [← HQ.out]; unfold ansT; simp only [k1, k2, hn, hd, he, hz]; simp
              have e0 : ¬ ((0 : Int) < (n : Int)) := by simpa using hn
              have e1 : ¬ ((0 : Int) < (zn : Int)) := by simpa using hz
              have e2 : decide (0 < n) = false := by simpa using hn
              have e3 : decide (0 < zn) = false := by simpa using hz
              go_enter Try.func34, Try.ntmps34
              go_wp2_with fail
              go_ret
              exact ⟨rfl, (Below.refl _ _).alloc (Nat.le_refl _) _⟩
            · obtain rfl : q = false := by rw [← HQ.out]; unfold ansT; simp only [k1, k2, hn, hd, he, hz]; simp
              have e0 : ¬ ((0 : Int) < (n : Int)) := by simpa using hn
              have e1 : ((0 : Int) < (zn : Int)) := by simpa using hz
              have e2 : decide (0 < n) = false := by simpa using hn
              have e3 : decide (0 < zn) = true := by simpa using hz
              go_enter Try.func34, Try.ntmps34
              go_wp2_with fail
              go_ret
              exact ⟨rfl, (Below.refl _ _).alloc (Nat.le_refl _) _⟩
      · rcases he : (e != 0) with _ | _
        · rcases hz : decide ((0 : Int) < (zn : Int)) with _ | _
          · obtain rfl : q = true := by rw [← HQ.out]; unfold ansT; simp only [k1, k2, hn, he, hz]; simp
            have e0 : ((0 : Int) < (n : Int)) := by simpa using hn
            have e1 : ¬ ((0 : Int) < (zn : Int)) := by simpa using hz
            have e2 : decide (0 < n) = true := by simpa using hn
            have e3 : decide (0 < zn) = false := by simpa using hz
            go_enter Try.func34, Try.ntmps34
            go_wp2_with fail
            go_ret
            exact ⟨rfl, (Below.refl _ _).alloc (Nat.le_refl _) _⟩
          · obtain rfl : q = false := by rw [← HQ.out]; unfold ansT; simp only [k1, k2, hn, he, hz]; simp
            have e0 : ((0 : Int) < (n : Int)) := by simpa using hn
            have e1 : ((0 : Int) < (zn : Int)) := by simpa using hz
            have e2 : decide (0 < n) = true := by simpa using hn
            have e3 : decide (0 < zn) = true := by simpa using hz
            go_enter Try.func34, Try.ntmps34
            go_wp2_with fail
            go_ret
            exact ⟨rfl, (Below.refl _ _).alloc (Nat.le_refl _) _⟩
        · rcases hz : decide ((0 : Int) < (zn : Int)) with _ | _
          · obtain rfl : q = false := by rw [← HQ.out]; unfold ansT; simp only [k1, k2, hn, he, hz]; simp
            have e0 : ((0 : Int) < (n : Int)) := by simpa using hn
            have e1 : ¬ ((0 : Int) < (zn : Int)) := by simpa using hz
            have e2 : decide (0 < n) = true := by simpa using hn
            have e3 : decide (0 < zn) = false := by simpa using hz
            go_enter Try.func34, Try.ntmps34
            go_wp2_with fail
            go_ret
            exact ⟨rfl, (Below.refl _ _).alloc (Nat.le_refl _) _⟩
          · obtain rfl : q = false := by rw [← HQ.out]; unfold ansT; simp only [k1, k2, hn, he, hz]; simp
            have e0 : ((0 : Int) < (n : Int)) := by simpa using hn
            have e1 : ((0 : Int) < (zn : Int)) := by simpa using hz
            have e2 : decide (0 < n) = true := by simpa using hn
            have e3 : decide (0 < zn) = true := by simpa using hz
            go_enter Try.func34, Try.ntmps34
            go_wp2_with fail
            go_ret
            exact ⟨rfl, (Below.refl _ _).alloc (Nat.le_refl _) _⟩
  · rcases hn : decide ((0 : Int) < (n : Int)) with _ | _
    · rcases hd : d with _ | _
      · rcases he : (e != 0) with _ | _
        · rcases hz : decide ((0 : Int) < (zn : Int)) with _ | _
          · obtain rfl : q = true := by rw [← HQ.out]; unfold ansT; simp only [k1, hn, hd, he, hz]; simp
            have e0 : ¬ ((0 : Int) < (n : Int)) := by simpa using hn
            have e1 : ¬ ((0 : Int) < (zn : Int)) := by simpa using hz
            have e2 : decide (0 < n) = false := by simpa using hn
            have e3 : decide (0 < zn) = false := by simpa using hz
            go_enter Try.func34, Try.ntmps34
            go_wp2_with fail
            go_ret
            exact ⟨rfl, (Below.refl _ _).alloc (Nat.le_refl _) _⟩
          · obtain rfl : q = false := by rw [← HQ.out]; unfold ansT; simp only [k1, hn, hd, he, hz]; simp
            have e0 : ¬ ((0 : Int) < (n : Int)) := by simpa using hn
            have e1 : ((0 : Int) < (zn : Int)) := by simpa using hz
            have e2 : decide (0 < n) = false := by simpa using hn
            have e3 : decide (0 < zn) = true := by simpa using hz
            go_enter Try.func34, Try.ntmps34
            go_wp2_with fail
            go_ret
            exact ⟨rfl, (Below.refl _ _).alloc (Nat.le_refl _) _⟩
        · rcases hz : decide ((0 : Int) < (zn : Int)) with _ | _
          · obtain rfl : q = false := by rw [← HQ.out]; unfold ansT; simp only [k1, hn, hd, he, hz]; simp
            have e0 : ¬ ((0 : Int) < (n : Int)) := by simpa using hn
            have e1 : ¬ ((0 : Int) < (zn : Int)) := by simpa using hz
            have e2 : decide (0 < n) = false := by simpa using hn
            have e3 : decide (0 < zn) = false := by simpa using hz
            go_enter Try.func34, Try.ntmps34
            go_wp2_with fail
            go_ret
            exact ⟨rfl, (Below.refl _ _).alloc (Nat.le_refl _) _⟩
          · obtain rfl : q = false := by rw [← HQ.out]; unfold ansT; simp only [k1, hn, hd, he, hz]; simp
            have e0 : ¬ ((0 : Int) < (n : Int)) := by simpa using hn
            have e1 : ((0 : Int) < (zn : Int)) := by simpa using hz
            have e2 : decide (0 < n) = false := by simpa using hn
            have e3 : decide (0 < zn) = true := by simpa using hz
            go_enter Try.func34, Try.ntmps34
            go_wp2_with fail
            go_ret
            exact ⟨rfl, (Below.refl _ _).alloc (Nat.le_refl _) _⟩
      · rcases he : (e != 0) with _ | _
        · rcases hz : decide ((0 : Int) < (zn : Int)) with _ | _
          · obtain rfl : q = false := by rw [← HQ.out]; unfold ansT; simp only [k1, hn, hd, he, hz]; simp
            have e0 : ¬ ((0 : Int) < (n : Int)) := by simpa using hn
            have e1 : ¬ ((0 : Int) < (zn : Int)) := by simpa using hz
            have e2 : decide (0 < n) = false := by simpa using hn
            have e3 : decide (0 < zn) = false := by simpa using hz
            go_enter Try.func34, Try.ntmps34
            go_wp2_with fail
            go_ret
            exact ⟨rfl, (Below.refl _ _).alloc (Nat.le_refl _) _⟩
          · obtain rfl : q = false := by rw [← HQ.out]; unfold ansT; simp only [k1, hn, hd, he, hz]; simp
            have e0 : ¬ ((0 : Int) < (n : Int)) := by simpa using hn
            have e1 : ((0 : Int) < (zn : Int)) := by simpa using hz
            have e2 : decide (0 < n) = false := by simpa using hn
            have e3 : decide (0 < zn) = true := by simpa using hz
            go_enter Try.func34, Try.ntmps34
            go_wp2_with fail
            go_ret
            exact ⟨rfl, (Below.refl _ _).alloc (Nat.le_refl _) _⟩
        · rcases hz : decide ((0 : Int) < (zn : Int)) with _ | _
          · obtain rfl : q = false := by rw [← HQ.out]; unfold ansT; simp only [k1, hn, hd, he, hz]; simp
            have e0 : ¬ ((0 : Int) < (n : Int)) := by simpa using hn
            have e1 : ¬ ((0 : Int) < (zn : Int)) := by simpa using hz
            have e2 : decide (0 < n) = false := by simpa using hn
            have e3 : decide (0 < zn) = false := by simpa using hz
            go_enter Try.func34, Try.ntmps34
            go_wp2_with fail
            go_ret
            exact ⟨rfl, (Below.refl _ _).alloc (Nat.le_refl _) _⟩
          · obtain rfl : q = false := by rw [← HQ.out]; unfold ansT; simp only [k1, hn, hd, he, hz]; simp
            have e0 : ¬ ((0 : Int) < (n : Int)) := by simpa using hn
            have e1 : ((0 : Int) < (zn : Int)) := by simpa using hz
            have e2 : decide (0 < n) = false := by simpa using hn
            have e3 : decide (0 < zn) = true := by simpa using hz
            go_enter Try.func34, Try.ntmps34
            go_wp2_with fail
            go_ret
            exact ⟨rfl, (Below.refl _ _).alloc (Nat.le_refl _) _⟩
    · rcases he : (e != 0) with _ | _
      · rcases hz : decide ((0 : Int) < (zn : Int)) with _ | _
        · obtain rfl : q = false := by rw [← HQ.out]; unfold ansT; simp only [k1, hn, he, hz]; simp
          have e0 : ((0 : Int) < (n : Int)) := by simpa using hn
          have e1 : ¬ ((0 : Int) < (zn : Int)) := by simpa using hz
          have e2 : decide (0 < n) = true := by simpa using hn
          have e3 : decide (0 < zn) = false := by simpa using hz
          go_enter Try.func34, Try.ntmps34
          go_wp2_with fail
          go_ret
          exact ⟨rfl, (Below.refl _ _).alloc (Nat.le_refl _) _⟩
        · obtain rfl : q = false := by rw [← HQ.out]; unfold ansT; simp only [k1, hn, he, hz]; simp
          have e0 : ((0 : Int) < (n : Int)) := by simpa using hn
          have e1 : ((0 : Int) < (zn : Int)) := by simpa using hz
          have e2 : decide (0 < n) = true := by simpa using hn
          have e3 : decide (0 < zn) = true := by simpa using hz
          go_enter Try.func34, Try.ntmps34
          go_wp2_with fail
          go_ret
          exact ⟨rfl, (Below.refl _ _).alloc (Nat.le_refl _) _⟩
      · rcases hz : decide ((0 : Int) < (zn : Int)) with _ | _
        · obtain rfl : q = false := by rw [← HQ.out]; unfold ansT; simp only [k1, hn, he, hz]; simp
          have e0 : ((0 : Int) < (n : Int)) := by simpa using hn
          have e1 : ¬ ((0 : Int) < (zn : Int)) := by simpa using hz
          have e2 : decide (0 < n) = true := by simpa using hn
          have e3 : decide (0 < zn) = false := by simpa using hz
          go_enter Try.func34, Try.ntmps34
          go_wp2_with fail
          go_ret
          exact ⟨rfl, (Below.refl _ _).alloc (Nat.le_refl _) _⟩
        · obtain rfl : q = false := by rw [← HQ.out]; unfold ansT; simp only [k1, hn, he, hz]; simp
          have e0 : ((0 : Int) < (n : Int)) := by simpa using hn
          have e1 : ((0 : Int) < (zn : Int)) := by simpa using hz
          have e2 : decide (0 < n) = true := by simpa using hn
          have e3 : decide (0 < zn) = true := by simpa using hz
          go_enter Try.func34, Try.ntmps34
          go_wp2_with fail
          go_ret
          exact ⟨rfl, (Below.refl _ _).alloc (Nat.le_refl _) _⟩
def mayT (size k : Int) (n : Nat) (m : Int) : Bool :=
  if k == 1 || k == 2 then ((n : Int) == size) && decide (0 ≤ m) && decide (m ≤ 0)
  else if k == 6 then ((n : Int) == 0) && decide (0 ≤ m) && decide (m ≤ 64)
  else if k == 3 || k == 4 || k == 5 then ((n : Int) == 0) && decide (0 ≤ m) && decide (m ≤ 0)
  else false
section
variable {w : World} {base o : Nat} {fp : Nat → Prop} {s : IS} {L : IdL}
set_option maxHeartbeats 4000000 in
theorem may_any (h : IdIn w base fp o s L) (x : Om) : Calls Try.prog 16 #[.pointer (some ⟨o, 0, none⟩), ordV x] w fun e w' => e = .returned (.bool (mayT s.size x.k x.n x.m)) ∧ Below w.heap.size w w' := by
  rcases x with ⟨k, oa, A, n, c, m⟩
  have S0 : Hid (Below w.heap.size w (w.alloc (.cells #[.int .i64 k, .int .u64 oa, .slice A n c, .int .i64 m] 32))) := (Below.refl _ _).alloc (Nat.le_refl _) _
  obtain ⟨size, HSZ⟩ : ∃ z, Hid (s.size = z) := ⟨_, rfl⟩
  obtain ⟨q, HQ⟩ : ∃ q, Hid (mayT size k n m = q) := ⟨_, rfl⟩
  have hc := h.but.c0
  rw [HSZ.out] at hc
  have c0 : (w.alloc (.cells #[.int .i64 k, .int .u64 oa, .slice A n c, .int .i64 m] 32)).cell? ⟨o, 0, none⟩ = some (.int .i64 size) := cell_old hc
  show Calls _ _ #[_, .agg #[.int .i64 k, .int .u64 oa, .slice A n c, .int .i64 m]] _ fun e w' => e = .returned (.bool (mayT s.size k n m)) ∧ _
  rw [HSZ.out, HQ.out]
  clear h
  rcases k1 : (k == 1) with _ | _
  · rcases k2 : (k == 2) with _ | _
    · rcases k6 : (k == 6) with _ | _
      · rcases k3 : (k == 3) with _ | _
        · rcases k4 : (k == 4) with _ | _
          · rcases k5 : (k == 5) with _ | _
            · obtain rfl : q = false := by rw [← HQ.out]; unfold mayT; simp only [k1, k2, k6, k3, k4, k5]; simp
              go_enter Try.func16, Try.ntmps16
              go_wp2_with fail
              go_ret
              exact ⟨rfl, (Below.refl _ _).alloc (Nat.le_refl _) _⟩
            · rcases hn : ((n : Int) == 0) with _ | _
              · obtain rfl : q = false := by rw [← HQ.out]; unfold mayT; simp only [k1, k2, k6, k3, k4, k5, hn]; simp
                go_enter Try.func16, Try.ntmps16
                go_wp2_with fail
                go_ret
                exact ⟨rfl, (Below.refl _ _).alloc (Nat.le_refl _) _⟩
              · rcases hm : decide ((0 : Int) ≤ m) with _ | _
                · obtain rfl : q = false := by rw [← HQ.out]; unfold mayT; simp only [k1, k2, k6, k3, k4, k5, hn, hm]; simp
                  have e0 : ¬ ((0 : Int) ≤ m) := by simpa using hm
                  go_enter Try.func16, Try.ntmps16
                  go_wp2_with fail
                  go_ret
                  exact ⟨rfl, (Below.refl _ _).alloc (Nat.le_refl _) _⟩
                · rcases hl : decide (m ≤ 0) with _ | _
                  · obtain rfl : q = false := by rw [← HQ.out]; unfold mayT; simp only [k1, k2, k6, k3, k4, k5, hn, hm, hl]; simp
                    have e0 : ((0 : Int) ≤ m) := by simpa using hm
                    have e1 : ¬ (m ≤ 0) := by simpa using hl
                    go_enter Try.func16, Try.ntmps16
                    go_wp2_with fail
                    go_ret
                    exact ⟨rfl, (Below.refl _ _).alloc (Nat.le_refl _) _⟩
                  · obtain rfl : q = true := by rw [← HQ.out]; unfold mayT; simp only [k1, k2, k6, k3, k4, k5, hn, hm, hl]; simp
                    have e0 : ((0 : Int) ≤ m) := by simpa using hm
                    have e1 : (m ≤ 0) := by simpa using hl
                    go_enter Try.func16, Try.ntmps16
                    go_wp2_with fail
                    go_ret
                    exact ⟨rfl, (Below.refl _ _).alloc (Nat.le_refl _) _⟩
          · rcases hn : ((n : Int) == 0) with _ | _
            · obtain rfl : q = false := by rw [← HQ.out]; unfold mayT; simp only [k1, k2, k6, k3, k4, hn]; simp
              go_enter Try.func16, Try.ntmps16
              go_wp2_with fail
              go_ret
              exact ⟨rfl, (Below.refl _ _).alloc (Nat.le_refl _) _⟩
            · rcases hm : decide ((0 : Int) ≤ m) with _ | _
              · obtain rfl : q = false := by rw [← HQ.out]; unfold mayT; simp only [k1, k2, k6, k3, k4, hn, hm]; simp
                have e0 : ¬ ((0 : Int) ≤ m) := by simpa using hm
                go_enter Try.func16, Try.ntmps16
                go_wp2_with fail
                go_ret
                exact ⟨rfl, (Below.refl _ _).alloc (Nat.le_refl _) _⟩
              · rcases hl : decide (m ≤ 0) with _ | _
                · obtain rfl : q = false := by rw [← HQ.out]; unfold mayT; simp only [k1, k2, k6, k3, k4, hn, hm, hl]; simp
                  have e0 : ((0 : Int) ≤ m) := by simpa using hm
                  have e1 : ¬ (m ≤ 0) := by simpa using hl
                  go_enter Try.func16, Try.ntmps16
                  go_wp2_with fail
                  go_ret
                  exact ⟨rfl, (Below.refl _ _).alloc (Nat.le_refl _) _⟩
                · obtain rfl : q = true := by rw [← HQ.out]; unfold mayT; simp only [k1, k2, k6, k3, k4, hn, hm, hl]; simp
                  have e0 : ((0 : Int) ≤ m) := by simpa using hm
                  have e1 : (m ≤ 0) := by simpa using hl
                  go_enter Try.func16, Try.ntmps16
                  go_wp2_with fail
                  go_ret
                  exact ⟨rfl, (Below.refl _ _).alloc (Nat.le_refl _) _⟩
        · rcases hn : ((n : Int) == 0) with _ | _
          · obtain rfl : q = false := by rw [← HQ.out]; unfold mayT; simp only [k1, k2, k6, k3, hn]; simp
            go_enter Try.func16, Try.ntmps16
            go_wp2_with fail
            go_ret
            exact ⟨rfl, (Below.refl _ _).alloc (Nat.le_refl _) _⟩
          · rcases hm : decide ((0 : Int) ≤ m) with _ | _
            · obtain rfl : q = false := by rw [← HQ.out]; unfold mayT; simp only [k1, k2, k6, k3, hn, hm]; simp
              have e0 : ¬ ((0 : Int) ≤ m) := by simpa using hm
              go_enter Try.func16, Try.ntmps16
              go_wp2_with fail
              go_ret
              exact ⟨rfl, (Below.refl _ _).alloc (Nat.le_refl _) _⟩
            · rcases hl : decide (m ≤ 0) with _ | _
              · obtain rfl : q = false := by rw [← HQ.out]; unfold mayT; simp only [k1, k2, k6, k3, hn, hm, hl]; simp
                have e0 : ((0 : Int) ≤ m) := by simpa using hm
                have e1 : ¬ (m ≤ 0) := by simpa using hl
                go_enter Try.func16, Try.ntmps16
                go_wp2_with fail
                go_ret
                exact ⟨rfl, (Below.refl _ _).alloc (Nat.le_refl _) _⟩
              · obtain rfl : q = true := by rw [← HQ.out]; unfold mayT; simp only [k1, k2, k6, k3, hn, hm, hl]; simp
                have e0 : ((0 : Int) ≤ m) := by simpa using hm
                have e1 : (m ≤ 0) := by simpa using hl
                go_enter Try.func16, Try.ntmps16
                go_wp2_with fail
                go_ret
                exact ⟨rfl, (Below.refl _ _).alloc (Nat.le_refl _) _⟩
      · rcases hn : ((n : Int) == 0) with _ | _
        · obtain rfl : q = false := by rw [← HQ.out]; unfold mayT; simp only [k1, k2, k6, hn]; simp
          go_enter Try.func16, Try.ntmps16
          go_wp2_with fail
          go_ret
          exact ⟨rfl, (Below.refl _ _).alloc (Nat.le_refl _) _⟩
        · rcases hm : decide ((0 : Int) ≤ m) with _ | _
          · obtain rfl : q = false := by rw [← HQ.out]; unfold mayT; simp only [k1, k2, k6, hn, hm]; simp
            have e0 : ¬ ((0 : Int) ≤ m) := by simpa using hm
            go_enter Try.func16, Try.ntmps16
            go_wp2_with fail
            go_ret
            exact ⟨rfl, (Below.refl _ _).alloc (Nat.le_refl _) _⟩
          · rcases hl : decide (m ≤ 64) with _ | _
            · obtain rfl : q = false := by rw [← HQ.out]; unfold mayT; simp only [k1, k2, k6, hn, hm, hl]; simp
              have e0 : ((0 : Int) ≤ m) := by simpa using hm
              have e1 : ¬ (m ≤ 64) := by simpa using hl
              go_enter Try.func16, Try.ntmps16
              go_wp2_with fail
              go_ret
              exact ⟨rfl, (Below.refl _ _).alloc (Nat.le_refl _) _⟩
            · obtain rfl : q = true := by rw [← HQ.out]; unfold mayT; simp only [k1, k2, k6, hn, hm, hl]; simp
              have e0 : ((0 : Int) ≤ m) := by simpa using hm
              have e1 : (m ≤ 64) := by simpa using hl
              go_enter Try.func16, Try.ntmps16
              go_wp2_with fail
              go_ret
              exact ⟨rfl, (Below.refl _ _).alloc (Nat.le_refl _) _⟩
    · rcases hn : ((n : Int) == size) with _ | _
      · obtain rfl : q = false := by rw [← HQ.out]; unfold mayT; simp only [k1, k2, hn]; simp
        go_enter Try.func16, Try.ntmps16
        go_wp2_with fail
        go_ret
        exact ⟨rfl, (Below.refl _ _).alloc (Nat.le_refl _) _⟩
      · rcases hm : decide ((0 : Int) ≤ m) with _ | _
        · obtain rfl : q = false := by rw [← HQ.out]; unfold mayT; simp only [k1, k2, hn, hm]; simp
          have e0 : ¬ ((0 : Int) ≤ m) := by simpa using hm
          go_enter Try.func16, Try.ntmps16
          go_wp2_with fail
          go_ret
          exact ⟨rfl, (Below.refl _ _).alloc (Nat.le_refl _) _⟩
        · rcases hl : decide (m ≤ 0) with _ | _
          · obtain rfl : q = false := by rw [← HQ.out]; unfold mayT; simp only [k1, k2, hn, hm, hl]; simp
            have e0 : ((0 : Int) ≤ m) := by simpa using hm
            have e1 : ¬ (m ≤ 0) := by simpa using hl
            go_enter Try.func16, Try.ntmps16
            go_wp2_with fail
            go_ret
            exact ⟨rfl, (Below.refl _ _).alloc (Nat.le_refl _) _⟩
          · obtain rfl : q = true := by rw [← HQ.out]; unfold mayT; simp only [k1, k2, hn, hm, hl]; simp
            have e0 : ((0 : Int) ≤ m) := by simpa using hm
            have e1 : (m ≤ 0) := by simpa using hl
            go_enter Try.func16, Try.ntmps16
            go_wp2_with fail
            go_ret
            exact ⟨rfl, (Below.refl _ _).alloc (Nat.le_refl _) _⟩
  · rcases hn : ((n : Int) == size) with _ | _
    · obtain rfl : q = false := by rw [← HQ.out]; unfold mayT; simp only [k1, hn]; simp
      go_enter Try.func16, Try.ntmps16
      go_wp2_with fail
      go_ret
      exact ⟨rfl, (Below.refl _ _).alloc (Nat.le_refl _) _⟩
    · rcases hm : decide ((0 : Int) ≤ m) with _ | _
      · obtain rfl : q = false := by rw [← HQ.out]; unfold mayT; simp only [k1, hn, hm]; simp
        have e0 : ¬ ((0 : Int) ≤ m) := by simpa using hm
        go_enter Try.func16, Try.ntmps16
        go_wp2_with fail
        go_ret
        exact ⟨rfl, (Below.refl _ _).alloc (Nat.le_refl _) _⟩
      · rcases hl : decide (m ≤ 0) with _ | _
        · obtain rfl : q = false := by rw [← HQ.out]; unfold mayT; simp only [k1, hn, hm, hl]; simp
          have e0 : ((0 : Int) ≤ m) := by simpa using hm
          have e1 : ¬ (m ≤ 0) := by simpa using hl
          go_enter Try.func16, Try.ntmps16
          go_wp2_with fail
          go_ret
          exact ⟨rfl, (Below.refl _ _).alloc (Nat.le_refl _) _⟩
        · obtain rfl : q = true := by rw [← HQ.out]; unfold mayT; simp only [k1, hn, hm, hl]; simp
          have e0 : ((0 : Int) ≤ m) := by simpa using hm
          have e1 : (m ≤ 0) := by simpa using hl
          go_enter Try.func16, Try.ntmps16
          go_wp2_with fail
          go_ret
          exact ⟨rfl, (Below.refl _ _).alloc (Nat.le_refl _) _⟩
end
theorem may_nil (x : Om) (w : World) : Calls Try.prog 16 #[.pointer none, ordV x] w fun e w' => e = .returned (.bool false) ∧ Below w.heap.size w w' := by
  rcases x with ⟨k, oa, A, n, c, m⟩
  have S0 : Hid (Below w.heap.size w (w.alloc (.cells #[.int .i64 k, .int .u64 oa, .slice A n c, .int .i64 m] 32))) := (Below.refl _ _).alloc (Nat.le_refl _) _
  show Calls _ _ #[_, .agg #[.int .i64 k, .int .u64 oa, .slice A n c, .int .i64 m]] _ _
  go_enter Try.func16, Try.ntmps16
  go_wp2_with fail
  go_ret
  exact ⟨rfl, (Below.refl _ _).alloc (Nat.le_refl _) _⟩
/-- What New leaves. -/
def NewOut (size : Int) (w : World) (e : Ending) (w' : World) : Prop :=
  (128 ≤ size ∧ size ≤ 256 ∧ ∃ o fp, e = .returned (.pointer (some ⟨o, 0, none⟩)) ∧ Hid (IdAt w' w.heap.size fp o (newS size)) ∧ Hid (Below w.heap.size w w')) ∨ (¬ (128 ≤ size ∧ size ≤ 256) ∧ e = .returned (.pointer none) ∧ w' = w)
theorem new_any (size : Int) (w : World) : Calls Try.prog 10 #[.int .i64 size] w (NewOut size w) := by
  by_cases h1 : size < 128
  · have d1 : decide (size < 128) = true := decide_eq_true h1
    go_enter Try.func10, Try.ntmps10
    go_wp2_with fail
    go_ret
    exact Or.inr ⟨by omega, rfl, rfl⟩
  · have d1 : decide (size < 128) = false := decide_eq_false h1
    by_cases h2 : 256 < size
    · have d2 : decide (size > 256) = true := decide_eq_true h2
      go_enter Try.func10, Try.ntmps10
      go_wp2_with fail
      go_ret
      exact Or.inr ⟨by omega, rfl, rfl⟩
    · have d2 : decide (size > 256) = false := decide_eq_false h2
      have HI : Hid (IdAt (w.alloc (.cells #[.int .i64 size, .map none] 60)) w.heap.size (fun b => b = w.heap.size) w.heap.size (newS size)) := by
        refine ⟨⟨none, fun _ => 0, fun _ => 0⟩, ⟨heap_alloc_new w _, rfl, fun b e => (by cases e), fun a ha => (by cases ha), fun a ha => (by cases ha), fun a ha => (by cases ha), fun a ha => (by cases ha), fun a ha => (by cases ha), fun b hb => ?_, fun b hb => Nat.le_of_eq hb.symm, fun _ => rfl, new_ok size⟩, fun b e => (by cases e)⟩
        have hb' : b = w.heap.size := hb
        rw [hb']; simp
      have S0 : Hid (Below w.heap.size w (w.alloc (.cells #[.int .i64 size, .map none] 60))) := (Below.refl _ _).alloc (Nat.le_refl _) _
      go_enter Try.func10, Try.ntmps10
      go_wp2_with fail
      go_ret
      exact Or.inl ⟨by omega, by omega, _, _, rfl, HI, S0⟩
end Go.Proofs.Ytfidamiomnohcaa
