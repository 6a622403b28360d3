/- slices.Sort of words, by what its own sort does with rows of at most N. Conditions: the row's cells. -/
import Derived.Test.YtfidamiomnohcaaSortI
import Derived.Test.YtfidamiomnohcaaShelf
set_option linter.unusedVariables false
set_option linter.unusedSimpArgs false
set_option maxRecDepth 20000
namespace Go.Proofs.Ytfidamiomnohcaa
open Go.RowKit

def PdqTo (N : Nat) : Prop := ∀ (g n c : Nat) (V : List Int) (w : World) (lim : Nat), n ≤ N → WR g n c w V w →
  Calls Try.prog 62 #[.slice (some ⟨g, 0, none⟩) n c, .int .i64 0, .int .i64 n, .int .i64 lim] w (Sorts g n c w fun V' => Ran 0 n V V' ∧ SrtIn 0 n V')
theorem pdq12 : PdqTo 12 := fun g n c V w lim hn h => pdq_short (a := 0) w h (Nat.zero_le _) (Nat.le_refl _) (by omega) (by omega) lim
theorem pdq_nil (lim : Int) (w : World) : Calls Try.prog 62 #[.slice none 0 0, .int .i64 0, .int .i64 0, .int .i64 lim] w fun e w' => e = .returned (.tuple #[]) ∧ w' = w := by
  have C : Hid (Calls Try.prog 74 #[.slice none 0 0, .int .i64 0, .int .i64 0] w fun e w' => e = .returned (.tuple #[]) ∧ w' = w) := by
    show Calls _ _ _ _ _
    go_enter Try.func74, Try.ntmps74
    go_wp2_with fail
    go_loopw [6] (fun t6 wr => t6 = .int .i64 1 ∧ wr = w) (fun _ _ => 0)
    case atStart => exact ⟨rfl, rfl⟩
    case round =>
      obtain ⟨rfl, rfl⟩ := hrel
      go_wp2_with fail
      go_end0
      exact ⟨rfl, rfl⟩
  go_enter Try.func62, Try.ntmps62
  go_wp2_with fail
  go_loopw [1, 2] (fun t1 t2 wr => t1 = .int .i64 0 ∧ t2 = .int .i64 0 ∧ wr = w) (fun _ _ _ => 0)
  case atStart => exact ⟨rfl, rfl, rfl⟩
  case round =>
    obtain ⟨rfl, rfl, rfl⟩ := hrel
    go_wp2_with fail
    refine C.out.mono ?_
    rintro e w1 ⟨rfl, rfl⟩
    go_wp2_with fail
    refine bodyPost_ret (results_none rfl _ _ _) rfl ?_
    exact ⟨rfl, rfl⟩
theorem sort_to {N : Nat} (hP : PdqTo N) (hN : N ≤ 8000) : SortTo N := by
  intro A n c base xs w hn hb hr
  rcases hr.row.2 with ⟨hv, hn0⟩ | ⟨g, cap, cur, hv, hbg, hg, rest⟩
  · injection hv with e1 e2 e3
    subst e1 e2 e3
    obtain rfl := List.eq_nil_of_length_eq_zero hr.len
    have CL := Lib.hid (Try.bits_Len 0 w (by omega) (by omega))
    obtain ⟨b, HBL⟩ : ∃ b : Int, Hid ((Lib.bitLen (0 : Int).toNat : Int) = b) := ⟨_, rfl⟩
    rw [HBL.out] at CL
    have CP := Lib.hid (pdq_nil b w)
    have HR := Lib.hid hr
    clear hr
    go_enter Try.func40, Try.ntmps40
    go_wp2_with fail
    refine CL.out.mono ?_
    rintro e w1 ⟨rfl, rfl⟩
    go_wp2_with fail
    refine CP.out.mono ?_
    rintro e w1 ⟨rfl, rfl⟩
    go_wp2_with fail
    go_end0
    exact ⟨rfl, [], List.Perm.refl _, List.Pairwise.nil, HR, Turn.refl _ _⟩
  · injection hv with e1 e2 e3
    subst e1 e3
    have h1 : wordK.Row w g (some ⟨g, 0, none⟩) n _ xs := ⟨⟨hr.row.1, Or.inr ⟨g, _, cur, rfl, Nat.le_refl _, hg, rest⟩⟩, hr.wf⟩
    have CL := Lib.hid (Try.bits_Len (n : Int) w (by omega) (by omega))
    obtain ⟨b, HBL⟩ : ∃ b : Nat, Hid (Lib.bitLen (n : Int).toNat = b) := ⟨_, rfl⟩
    rw [HBL.out] at CL
    have CP := Lib.hid (hP g n _ xs w b hn ⟨h1, Turn.refl _ _⟩)
    have HL : Hid (xs.length = n) := hr.len
    have HBG := Lib.hid hbg
    have i0 : (0 : Int) ≤ (n : Int) := by omega
    have i1 : (n : Int) ≤ 18446744073709551615 := by omega
    clear hr h1
    go_enter Try.func40, Try.ntmps40
    go_wp2_with fail
    refine CL.out.mono ?_
    rintro e w1 ⟨rfl, rfl⟩
    go_wp2_with fail
    refine CP.out.mono ?_
    rintro e w2 ⟨rfl, U, hU, hQ⟩
    go_wp2_with fail
    go_end0
    have hUL := hU.out.len
    refine ⟨rfl, U, hQ.out.1.perm (by rw [HL.out]; exact Nat.le_refl _), ?_, ?_, ?_⟩
    · refine srtIn_pairwise ?_
      rw [hUL]; exact hQ.out.2
    · exact hU.out.row.elder HBG.out
    · exact hU.out.turn.mono fun b hb => Or.inl (by rw [hb]; simp [blk])
end Go.Proofs.Ytfidamiomnohcaa
