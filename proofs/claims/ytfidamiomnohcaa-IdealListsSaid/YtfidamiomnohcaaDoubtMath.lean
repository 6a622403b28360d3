/- IdealDoubts as mathematics. No conditions. -/
import Derived.Test.YtfidamiomnohcaaIdDirty
import Derived.Test.YtfidamiomnohcaaFixMath
set_option linter.unusedVariables false
set_option linter.unusedSimpArgs false
set_option maxRecDepth 20000
namespace Go.Proofs.Ytfidamiomnohcaa
open Go.RowKit

def F2 (v : Int) : List Nat := fillL v 200
theorem F2_len (v : Int) : (F2 v).length = 200 := fillL_len _ _
theorem F2_lt {v : Int} : ∀ b ∈ F2 v, b < 256 := fun b h => fillL_lt b h
/-- Behind some writes to address 9 that met the dark. -/
structure DB (s : IS) (vs : List Int) : Prop where
  srt : Srt (s.f 9)
  mem : ∀ t, t ∈ s.f 9 ↔ ∃ v ∈ vs, t = dirT (F2 v)
  sz : s.size = 200
  ks : s.ks = [9]
  len : (s.f 9).length ≤ 2 * vs.length
  oth : ∀ y, y ≠ 9 → s.f y = [Th.zero]
/-- Behind a read that told a block there. -/
structure DT (s : IS) (X : List Nat) : Prop where
  f9 : s.f 9 = [dirT X]
  f8 : s.f 8 = [Th.zero]
  ks : s.ks = [9]
  small : Small s 20 1
theorem blk_dir {l : List Th} (hs : Srt l) (hn : l ≠ []) (h : ∀ t ∈ l, t.k = 2) : isBlk l = true := by
  have h1 := h _ (last_mem hn)
  unfold isBlk
  rw [h1]; rfl
theorem db_put {s : IS} {vs : List Int} {l : List Th} (hz : s.size = 200) (hk : s.ks = [9] ∨ s.ks = []) (hs : Srt l) (hm : ∀ t, t ∈ l ↔ ∃ v ∈ vs, t = dirT (F2 v)) (hl : l.length ≤ 2 * vs.length) (hv : vs ≠ []) (ho : ∀ y, y ≠ 9 → s.f y = [Th.zero]) : DB (putS s 9 l) vs := by
  have hne : l ≠ [] := by
    obtain ⟨v, r, rfl⟩ := List.exists_cons_of_ne_nil hv
    intro e
    have := (hm (dirT (F2 v))).2 ⟨v, List.mem_cons_self, rfl⟩
    rw [e] at this; cases this
  have hb : isBlk l = true := blk_dir hs hne fun t ht => by
    obtain ⟨v, _, rfl⟩ := (hm t).1 ht
    rfl
  refine ⟨by rw [put_self]; exact hs, by rw [put_self]; exact hm, hz, ?_, by rw [put_self]; exact hl, fun y hy => ?_⟩
  · show (if isBlk l then insK s.ks 9 else strike s.ks 9) = [9]
    rw [hb, if_pos rfl]
    rcases hk with e | e <;> rw [e] <;> rfl
  · show upd s.f 9 l y = _
    rw [upd_ne _ _ hy]; exact ho y hy
theorem db_start (v : Int) : ∃ s, takeT (newS 200) 1 9 (F2 v) 0 1 0 [] false 0 = (s, true) ∧ DB s [v] := by
  refine ⟨_, take_dirty _ _ _ (by rw [F2_len]; rfl), db_put rfl (Or.inr rfl) (srt_one _) (fun t => ?_) (by show 1 ≤ 2; decide) (by simp) (fun y hy => rfl)⟩
  rw [List.mem_singleton]
  exact ⟨fun h => ⟨v, List.mem_cons_self, h⟩, fun ⟨u, hu, h⟩ => by rw [List.mem_singleton.1 hu] at h; exact h⟩
theorem db_next {s : IS} {vs : List Int} (h : DB s vs) (hv : vs ≠ []) (v : Int) : ∃ s', takeT s 1 9 (F2 v) 0 4 4 [] false 0 = (s', true) ∧ DB s' (vs ++ [v]) := by
  refine ⟨_, take_dark _ _ _ (by rw [F2_len, h.sz]; rfl), db_put h.sz (Or.inl h.ks) (srt_with h.srt) (fun t => ?_) ?_ (by simp) h.oth⟩
  · rw [mem_with, h.mem]
    constructor
    · rintro (⟨u, hu, e⟩ | e | ⟨_, it, hi, e⟩)
      · exact ⟨u, List.mem_append_left _ hu, e⟩
      · exact ⟨v, List.mem_append_right _ (List.mem_singleton.2 rfl), List.mem_singleton.1 e⟩
      · rw [List.mem_singleton.1 hi] at e
        exact absurd e (by show ¬ (2 : Int) = 1; decide)
    · rintro ⟨u, hu, e⟩
      rcases List.mem_append.1 hu with hu | hu
      · exact Or.inl ⟨u, hu, e⟩
      · rw [List.mem_singleton.1 hu] at e
        exact Or.inr (Or.inl (List.mem_singleton.2 e))
  · have h1 := len_with [dirT (F2 v)] (s.f 9)
    have h2 := h.len
    rw [List.length_append]
    simp only [List.length_singleton] at h1 ⊢
    omega
theorem db_can {s : IS} {vs : List Int} (h : DB s vs) {v : Int} (hv : v ∈ vs) : canT (s.f 9) 2 0 (F2 v) true 0 = true := by
  rw [can_read]
  exact (isT_iff h.srt).2 ((h.mem _).2 ⟨v, hv, rfl⟩)
theorem db_cannot {s : IS} {vs : List Int} (h : DB s vs) (v : Int) : canT (s.f 9) 2 0 (F2 v) false 0 = false := by
  rw [can_read, Bool.eq_false_iff]
  intro e
  obtain ⟨u, _, e2⟩ := (h.mem _).1 ((isT_iff h.srt).1 e)
  exact absurd (congrArg Th.k e2) (by show ¬ (1 : Int) = 2; decide)
theorem DB.small {s : IS} {vs : List Int} (h : DB s vs) (hv : vs.length ≤ 7) : Small s 20 1 := ⟨fun y => by
  by_cases e : y = 9
  · rw [e]; have := h.len; omega
  · rw [h.oth y e]; show 1 ≤ 20; decide, by rw [h.ks]; show 1 ≤ 1; decide⟩
theorem db_told {s : IS} {vs : List Int} (h : DB s vs) (hl : vs.length ≤ 7) {v : Int} (hv : v ∈ vs) : ∃ s', takeT s 3 9 [] 0 2 0 (F2 v) true 0 = (s', true) ∧ DT s' (F2 v) := by
  have h1 : isT (s.f 9) (dirT (F2 v)) = true := (isT_iff h.srt).2 ((h.mem _).2 ⟨v, hv, rfl⟩)
  have hb : isBlk [dirT (F2 v)] = true := rfl
  refine ⟨putS s 9 [dirT (F2 v)], ?_, put_self _ _ _, ?_, ?_, ?_⟩
  · rw [take_read, show readT true (F2 v) = dirT (F2 v) from rfl, h1, with_one _ (by show ¬ (2 : Int) = 1; decide)]
    rfl
  · show upd s.f 9 [dirT (F2 v)] 8 = _
    rw [upd_ne _ _ (show (8 : Int) ≠ 9 by decide)]
    exact h.oth 8 (by decide)
  · show (if isBlk [dirT (F2 v)] then insK s.ks 9 else strike s.ks 9) = [9]
    rw [hb, if_pos rfl, h.ks]; rfl
  · refine ⟨((h.small hl).put 9 [dirT (F2 v)] (m := 20) (by show 1 ≤ 20; decide) (Nat.le_refl _)).l, ?_⟩
    show (if isBlk [dirT (F2 v)] then insK s.ks 9 else strike s.ks 9).length ≤ 1
    rw [hb, if_pos rfl, h.ks]; show 1 ≤ 1; decide
theorem dt_can {s : IS} {X Y : List Nat} (h : DT s X) (hx : ∀ b ∈ X, b < 256) (hy : ∀ b ∈ Y, b < 256) : canT (s.f 9) 2 0 Y true 0 = decide (X = Y) := by
  rw [can_read, h.f9, show readT true Y = dirT Y from rfl, isT_one]
  by_cases e : X = Y
  · rw [decide_eq_true e, e, decide_eq_true rfl]
  · rw [decide_eq_false e, decide_eq_false fun q => dir_ne hx hy e q.symm]
theorem dt_eight {s : IS} {X Y : List Nat} (h : DT s X) : canT (s.f 8) 2 0 Y true 0 = false := by
  rw [can_read, h.f8, show readT true Y = dirT Y from rfl, isT_one, decide_eq_false (dir_ne_zero Y)]
theorem dt_sure {s : IS} {X : List Nat} (h : DT s X) : sureL s = [9] := by
  unfold sureL
  rw [h.ks, List.filter_cons_of_pos (by rw [h.f9]; rfl)]
  rfl
theorem dt_dirs {s : IS} {X : List Nat} (h : DT s X) : dirsL s = [9] := by
  unfold dirsL
  rw [h.ks, List.filter_cons_of_pos (by rw [h.f9]; rfl)]
  rfl
theorem dirty_at {w : World} {base o : Nat} {fp : Nat → Prop} {s : IS} (h : IdAt w base fp o s) (hk : s.ks.length ≤ 12) (hlen : ∀ a, (s.f a).length ≤ 400) : Calls Try.prog 19 #[.pointer (some ⟨o, 0, none⟩)] w (DirtyOut w s) := by
  obtain ⟨L, hL⟩ := h
  exact dirty_any (sort_to pdq12 (by decide)) (by decide) hL hk hlen
end Go.Proofs.Ytfidamiomnohcaa
