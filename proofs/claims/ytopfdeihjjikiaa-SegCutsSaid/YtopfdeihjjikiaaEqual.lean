/- The contract of bytes.Equal. Conditions: the slices' cells. -/
import Derived.Test.YtopfdeihjjikiaaRegion
import Derived.Test.YtopfdeihjjikiaaShared
import Derived.Test.YtopfdeihjjikiaaSays
set_option linter.unusedVariables false
set_option linter.unusedSimpArgs false
namespace Go.Proofs.Ytopfdeihjjikiaa
open Go.RowKit

/- bytes.Equal -/
theorem strOf_beq {bs cs : List Nat} (hb : ∀ b ∈ bs, b < 256) (hc : ∀ b ∈ cs, b < 256) : (strOf bs == strOf cs) = sameB bs cs := by
  unfold sameB
  by_cases h : bs = cs
  · subst h
    have := strOf_same bs
    rw [bne] at this
    simpa using this
  · have := strOf_other hb hc h
    rw [bne] at this
    simp only [h, decide_false]
    simpa using this
theorem equal_any (A A' : Option Addr) (n c n' c' : Nat) (bs cs : List Nat) (w : World) (hA : Bytes w w.heap.size A n bs) (hA' : Bytes w w.heap.size A' n' cs) : Calls Try.prog 41 #[.slice A n c, .slice A' n' c'] w (SaysB w (sameB bs cs)) := by
  have h1 := conv_bytes hA c
  have h2 := conv_bytes hA' c'
  have HB := Lib.hid (strOf_beq hA.lt256 hA'.lt256)
  obtain ⟨s1, H1⟩ : ∃ s, Hid (s = strOf bs) := ⟨_, rfl⟩
  obtain ⟨s2, H2⟩ : ∃ s, Hid (s = strOf cs) := ⟨_, rfl⟩
  rw [← H1.out] at h1 HB
  rw [← H2.out] at h2 HB
  obtain ⟨b, hb⟩ : ∃ b, (s1 == s2) = b := ⟨_, rfl⟩
  have HBB : Hid (b = sameB bs cs) := by rw [← hb]; exact HB
  rw [← HBB.out]
  clear HB hA hA'
  go_enter Try.func41, Try.ntmps41
  go_wp2
  go_ret
  exact ⟨by simp; rw [← beq_toListBytes]; exact hb, Below.refl _ _⟩
end Go.Proofs.Ytopfdeihjjikiaa
