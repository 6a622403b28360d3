/- 'return c.end(.., m, c.do(m, ..))': a region that draws its order, two of whose operations turn the chip, one behind the other. Conditions: none. -/
import Derived.Test.YtgamjffedlkbeaaNandErase
set_option linter.unusedVariables false
set_option linter.unusedSimpArgs false
namespace Go.Proofs.Ytgamjffedlkbeaa
open Go.RowKit

section
variable {w w' w0 : World} {base g m1 m2 : Nat} {fp : Nat → Prop} {s1 s2 s3 : Chip} {L : CL} {k : Int} {v : Value} {listed : Array Bool} {j : Nat}
/-- How far it has come: neither done; the first; both. -/
structure EndInv (W0 : World) (base : Nat) (fp : Nat → Prop) (g m1 m2 : Nat) (s1 s2 s3 : Chip) (L : CL) (listed : Array Bool) (w : World) : Prop where
  moves : Moves W0 fp w fp
  none_ : listed.getD m1 true = false → listed.getD m2 true = false → Rep w base fp g s1 L
  one : listed.getD m1 true = true → listed.getD m2 true = false → ∃ L', Rep w base fp g s2 L'
  both : listed.getD m2 true = true → ∃ L', Rep w base fp g s3 L'
structure EndR (base : Nat) (fp : Nat → Prop) (g m1 m2 : Nat) (s2 s3 : Chip) (j : Nat) (x y : World) : Prop where
  moves : Moves x fp y fp
  first : j = m1 → ∃ L', Rep y base fp g s2 L'
  last : j = m2 → ∃ L', Rep y base fp g s3 L'
  other : j ≠ m1 → j ≠ m2 → Later x y
theorem endr_later (h1 : j ≠ m1) (h2 : j ≠ m2) (h : Later w w') : EndR base fp g m1 m2 s2 s3 j w w' := ⟨Moves.of_below h, fun e => absurd e h1, fun e => absurd e h2, fun _ _ => h⟩
theorem endr_refl (h1 : j ≠ m1) (h2 : j ≠ m2) : EndR base fp g m1 m2 s2 s3 j w w := endr_later h1 h2 (later_refl _)
theorem getD_true_set {l : Array Bool} {i : Nat} (h : l.getD i true = false) : (l.setIfInBounds i true).getD i true = true := by
  by_cases hi : i < l.size <;> simp [hi] at h ⊢
theorem endinv_step {ops : Array Oper} {a0 a : Act} {F : Nat → Value → World → Prop} {dead : Nat → Option Nat} (H : Holds2 ops a0 F dead listed a w) (hn : needs ops m2 m1 = true) (hm : m1 ≠ m2) (h : EndInv w0 base fp g m1 m2 s1 s2 s3 L listed w) (hl : listed.getD j true = false) (hR : EndR base fp g m1 m2 s2 s3 j w w') : EndInv w0 base fp g m1 m2 s1 s2 s3 L (listed.setIfInBounds j true) w' := by
  by_cases e1 : j = m1
  · subst e1
    refine ⟨h.moves.trans hR.moves, fun h1 => ?_, fun h1 h2 => hR.first rfl, fun h2 => ?_⟩
    · rw [getD_true_set hl] at h1; cases h1
    · rw [getD_set_ne true hm, H.notyet hl hn] at h2; cases h2
  by_cases e2 : j = m2
  · subst e2
    refine ⟨h.moves.trans hR.moves, fun h1 h2 => ?_, fun h1 h2 => ?_, fun h2 => hR.last rfl⟩
    · rw [getD_true_set hl] at h2; cases h2
    · rw [getD_true_set hl] at h2; cases h2
  have hb := hR.other e1 e2
  refine ⟨h.moves.trans hR.moves, fun h1 h2 => ?_, fun h1 h2 => ?_, fun h2 => ?_⟩
  · rw [getD_set_ne true e1] at h1
    rw [getD_set_ne true e2] at h2
    exact (h.none_ h1 h2).since hb
  · rw [getD_set_ne true e1] at h1
    rw [getD_set_ne true e2] at h2
    obtain ⟨L', h3⟩ := h.one h1 h2
    exact ⟨L', h3.since hb⟩
  · rw [getD_set_ne true e2] at h2
    obtain ⟨L', h3⟩ := h.both h2
    exact ⟨L', h3.since hb⟩
theorem replicate_false {n i : Nat} (hi : i < n) : (Array.replicate n false).getD i true = false := by simp [hi]
theorem endinv_start {n : Nat} (h1 : m1 < n) (h2 : m2 < n) (h : Rep w base fp g s1 L) : EndInv w base fp g m1 m2 s1 s2 s3 L (Array.replicate n false) w :=
  ⟨Moves.refl _ _, fun _ _ => h, fun k _ => (by rw [replicate_false h1] at k; cases k), fun k => (by rw [replicate_false h2] at k; cases k)⟩
theorem RowM.over {gm : Nat} {m : M} (h : RowM w gm m) (hm : Moves w fp w' fp) (hg : ¬ fp gm) : RowM w' gm m := ⟨(hm.turn.block gm h.lt hg).trans h.row⟩
theorem ErrNew.over (h : ErrNew w0 fp w k v) (hm : Moves w fp w' fp) : ErrNew w0 fp w' k v := by
  rcases h with h | ⟨h0, g, s, e, h1, h2, h3, h4⟩
  · exact Or.inl h
  · exact Or.inr ⟨h0, g, s, e, hm.cell h4 h1, hm.cell h4 h2, h3, h4⟩
def ErrF (w0 : World) (fp : Nat → Prop) (k : Int) (v : Value) (w : World) : Prop := ErrNew w0 fp w k v
theorem errF_since (w0 : World) (fp : Nat → Prop) (k : Int) (v : Value) (w w' : World) (h : ErrF w0 fp k v w) (hb : Later w w') : ErrF w0 fp k v w' := ErrNew.over h (Moves.of_below hb)
/-- Facts that are values, but for two that tell of one error. -/
theorem facts_over (l : List Fact2) (i1 i2 : Nat) (h1 : l[i1]? = some (.that (ErrF w0 fp k) (errF_since _ _ _))) (h2 : l[i2]? = some (.that (ErrF w0 fp k) (errF_since _ _ _))) (hb : ((List.range l.length).all fun i => (match l[i]? with | some (.is _) => true | _ => false) || i == i1 || i == i2) = true)
    (i : Nat) (h : fact2Of l i v w) (hm : Moves w fp w' fp) : fact2Of l i v w' := by
  unfold fact2Of at h ⊢
  cases hq : l[i]? with
  | none => trivial
  | some f =>
    rw [hq] at h
    have hil : i < l.length := (List.getElem?_eq_some_iff.1 hq).1
    have h3 := List.all_eq_true.1 hb i (List.mem_range.2 hil)
    rw [hq] at h3
    simp only [Bool.or_eq_true, beq_iff_eq] at h3
    rcases h3 with (h3 | h3) | h3
    · cases f with
      | is u => exact h
      | row rs => cases h3
      | own b n bs => cases h3
      | that p hp => cases h3
    · subst h3
      rw [hq] at h1
      obtain rfl := Option.some.inj h1
      exact ErrNew.over h hm
    · subst h3
      rw [hq] at h2
      obtain rfl := Option.some.inj h2
      exact ErrNew.over h hm
end
/-- What a call leaves that answers an error. -/
def Leads (w : World) (base : Nat) (fp : Nat → Prop) (g : Nat) (r : Chip × Int) (e : Ending) (w' : World) : Prop :=
  ∃ v fp', e = .returned v ∧ ErrNew w fp' w' r.2 v ∧ ChipAt w' base fp' g r.1 ∧ Moves w fp w' fp'
/-- What Read leaves. -/
def Reads (w : World) (base : Nat) (fp : Nat → Prop) (g : Nat) (r : Chip × Int × List Nat) (e : Ending) (w' : World) : Prop :=
  ∃ v A n c fp', e = .returned (.tuple #[.slice A n c, v]) ∧ ErrNew w fp' w' r.2.1 v ∧ Rest fp' w' w.heap.size A n c r.2.2 ∧ ChipAt w' base fp' g r.1 ∧ Moves w fp w' fp'
section
variable {w : World} {base g : Nat} {fp : Nat → Prop} {s : Chip} {L : CL}
theorem Rep.lit (h : Rep w base fp g s L) : Rep (w.setCell ⟨g, 5, none⟩ (.bool true)) base fp g { s with on := true } L :=
  h.head (h.wf.turn true) rfl rfl rfl rfl rfl (by simp [World.setCell, Array.getElem?_modify, h.row, chipRow]) (fun b hb => setCell_heap _ _ _ _ _ hb) (by simp [World.setCell])
theorem boot_any (hC : ChipAt w base fp g s) :
    Calls Try.prog 21 #[.pointer (some ⟨g, 0, none⟩)] w (Leads w base fp g s.boot) := by
  obtain ⟨L, h⟩ := hC
  obtain ⟨c0, c1, c2, c3, c4, c5, c6, c7, c8⟩ := h.cells
  cases hon : s.on with
  | true =>
    rw [show s.boot = (s, 9) from if_pos hon]
    rw [hon] at c5
    have H := Lib.hid h
    clear h c0 c1 c2 c3 c4 c6 c7 c8 hon
    go_enter Try.func21, Try.ntmps21
    go_wp2_with fail
    refine (wrong_new _ 9 (by decide) w fp H.out.lt).mono ?_
    rintro e Wb ⟨v, rfl, he, hb⟩
    have HE := Lib.hid he
    have HB := Lib.hid hb
    clear he hb
    go_wp2_with fail
    go_ret
    exact ⟨v, fp, rfl, HE.out, ⟨L, H.out.since HB.out⟩, Moves.of_below HB.out⟩
  | false =>
    rw [show s.boot = ({ s with on := true }, 0) from if_neg (by rw [hon]; decide)]
    rw [hon] at c5
    have f5 := h.free 5
    have H := Lib.hid h.lit
    have HM := Lib.hid (h.head_moves 5 (.bool true))
    clear h c0 c1 c2 c3 c4 c6 c7 c8 hon
    go_enter Try.func21, Try.ntmps21
    go_wp2_with fail
    go_ret
    exact ⟨_, fp, rfl, ErrNew.none_, ⟨L, H.out⟩, HM.out⟩
end
end Go.Proofs.Ytgamjffedlkbeaa
