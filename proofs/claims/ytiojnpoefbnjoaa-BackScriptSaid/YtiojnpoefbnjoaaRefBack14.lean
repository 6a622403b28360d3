/- The document's own back: New, Set, Clear. Conditions: its cells. -/
import Derived.Test.YtiojnpoefbnjoaaBackCells14
import Derived.Test.YtiojnpoefbnjoaaMoves
import Derived.Test.YtiojnpoefbnjoaaGives
set_option linter.unusedVariables false
set_option linter.unusedSimpArgs false
namespace Go.Proofs.Ytiojnpoefbnjoaa
open Go.RowKit

structure RBack (w : World) (base g gh ga : Nat) (s : Bk) : Prop where
  bg : base ≤ g
  bh : base ≤ gh
  ba : base ≤ ga
  row : w.heap[g]? = some (.cells #[.slice (some ⟨gh, 0, none⟩) s.length s.length, .slice (some ⟨ga, 0, none⟩) s.length s.length] 43 (0, 0))
  has : w.heap[gh]? = some (.cells (boolsC (hasBk s)) 4 (0, 0))
  num : w.heap[ga]? = some (.cells (wordsC (numBk s)) 28 (0, 0))
  wf : BkW s
def Blk2 (a b : Nat) : Nat → Prop := fun c => c = a ∨ c = b
section
variable {w w' : World} {base g gh ga k : Nat} {s : Bk} {fq : Nat → Prop}
theorem RBack.lg (h : RBack w base g gh ga s) : g < w.heap.size := (Array.getElem?_eq_some_iff.1 h.row).1
theorem RBack.lh (h : RBack w base g gh ga s) : gh < w.heap.size := (Array.getElem?_eq_some_iff.1 h.has).1
theorem RBack.la (h : RBack w base g gh ga s) : ga < w.heap.size := (Array.getElem?_eq_some_iff.1 h.num).1
theorem RBack.hg (h : RBack w base g gh ga s) : gh ≠ g := fun e => absurd (other_type (e ▸ h.has) h.row) (by decide)
theorem RBack.ag (h : RBack w base g gh ga s) : ga ≠ g := fun e => absurd (other_type (e ▸ h.num) h.row) (by decide)
theorem RBack.ha (h : RBack w base g gh ga s) : gh ≠ ga := fun e => absurd (other_type (e ▸ h.has) h.num) (by decide)
theorem RBack.c0 (h : RBack w base g gh ga s) : w.cell? ⟨g, 0, none⟩ = some (.slice (some ⟨gh, 0, none⟩) s.length s.length) := by rw [cell_of_row _ _ _ _ _ _ h.row]; rfl
theorem RBack.c1 (h : RBack w base g gh ga s) : w.cell? ⟨g, 1, none⟩ = some (.slice (some ⟨ga, 0, none⟩) s.length s.length) := by rw [cell_of_row _ _ _ _ _ _ h.row]; rfl
theorem RBack.hAt (h : RBack w base g gh ga s) (hk : k < s.length) : w.cell? ⟨gh, k, none⟩ = some (.bool (s.getD k none).isSome) := by rw [cell_of_row _ _ _ _ _ _ h.has, ← hasBk_at]; exact boolsC_at (by rw [hasBk_len]; exact hk)
theorem RBack.aAt (h : RBack w base g gh ga s) (hk : k < s.length) : w.cell? ⟨ga, k, none⟩ = some (.int .u64 ((s.getD k none).getD 0)) := by rw [cell_of_row _ _ _ _ _ _ h.num, ← numBk_at]; exact wordsC_at (by rw [numBk_len]; exact hk)
theorem RBack.fh (h : RBack w base g gh ga s) (k : Nat) : w.frozen? ⟨gh, k, none⟩ = false := by simp [World.frozen?, h.has]
theorem RBack.fa (h : RBack w base g gh ga s) (k : Nat) : w.frozen? ⟨ga, k, none⟩ = false := by simp [World.frozen?, h.num]
theorem RBack.keep (h : RBack w base g gh ga s) (ht : Turn fq w w') (h1 : ¬ fq g) (h2 : ¬ fq gh) (h3 : ¬ fq ga) : RBack w' base g gh ga s :=
  ⟨h.bg, h.bh, h.ba, (ht.block g h.lg h1).trans h.row, (ht.block gh h.lh h2).trans h.has, (ht.block ga h.la h3).trans h.num, h.wf⟩
theorem RBack.since (h : RBack w base g gh ga s) (hb : Below w.heap.size w w') : RBack w' base g gh ga s := h.keep (fq := fun _ => False) (Turn.of_below hb) id id id
theorem RBack.elder (h : RBack w base g gh ga s) {base' : Nat} (hb : base' ≤ base) : RBack w base' g gh ga s := ⟨Nat.le_trans hb h.bg, Nat.le_trans hb h.bh, Nat.le_trans hb h.ba, h.row, h.has, h.num, h.wf⟩
/-- A page's owner is stored. -/
theorem RBack.put (h : RBack w base g gh ga s) (o : Option Int) (ho : ∀ v, o = some v → 0 ≤ v ∧ v ≤ 18446744073709551615) : RBack ((w.setCell ⟨gh, k, none⟩ (.bool o.isSome)).setCell ⟨ga, k, none⟩ (.int .u64 (o.getD 0))) base g gh ga (s.set k o) := by
  have hha := h.ha
  have e1 : hasBk (s.set k o) = (hasBk s).set k o.isSome := by unfold hasBk; rw [List.map_set]
  have e2 : numBk (s.set k o) = (numBk s).set k (o.getD 0) := by unfold numBk; rw [List.map_set]
  refine ⟨h.bg, h.bh, h.ba, ?_, ?_, ?_, bkw_set h.wf k o ho⟩
  · rw [List.length_set, setCell_heap _ _ _ _ _ (Ne.symm h.ag), setCell_heap _ _ _ _ _ (Ne.symm h.hg)]; exact h.row
  · rw [setCell_heap _ _ _ _ _ hha, e1, ← boolsC_set]
    simp [World.setCell, Array.getElem?_modify, h.has]
  · rw [e2, ← wordsC_set]
    have h2 : (w.setCell ⟨gh, k, none⟩ (.bool o.isSome)).heap[ga]? = some (.cells (wordsC (numBk s)) 28 (0, 0)) := (setCell_heap _ _ _ _ _ (Ne.symm hha)).trans h.num
    generalize w.setCell ⟨gh, k, none⟩ (.bool o.isSome) = w2 at h2
    simp [World.setCell, Array.getElem?_modify, h2]
end
def NewRB (x : Int) (w : World) (e : Ending) (w' : World) : Prop :=
  (mayBk x = false ∧ e = .returned (.pointer none) ∧ Below w.heap.size w w') ∨ (mayBk x = true ∧ ∃ g gh ga, e = .returned (.pointer (some ⟨g, 0, none⟩)) ∧ RBack w' w.heap.size g gh ga (freshBk x.toNat) ∧ Below w.heap.size w w')
theorem new_rb (n : Nat) (w W2 : World) (g gh ga : Nat) (hm : mayBk (n : Int) = true) (hF : BkW (freshBk n)) (h1 : Below w.heap.size w W2) (hgg : W2.heap.size = g) (hg : w.heap.size ≤ gh) (ha : w.heap.size ≤ ga) (hh : W2.heap[gh]? = some (.cells (boolsC (List.replicate n false)) 4 (0, 0))) (hw : W2.heap[ga]? = some (.cells (wordsC (List.replicate n 0)) 28 (0, 0))) :
    NewRB (n : Int) w (.returned (.pointer (some ⟨g, 0, none⟩))) (W2.alloc (.cells #[.slice (some ⟨gh, 0, none⟩) n n, .slice (some ⟨ga, 0, none⟩) n n] 43)).drew := by
  subst hgg
  have hl : Below W2.heap.size W2 (W2.alloc (.cells #[.slice (some ⟨gh, 0, none⟩) n n, .slice (some ⟨ga, 0, none⟩) n n] 43)) := (Below.refl _ _).alloc (Nat.le_refl _) _
  have hlen : (freshBk n).length = n := by simp [freshBk]
  have hR : RBack (W2.alloc (.cells #[.slice (some ⟨gh, 0, none⟩) n n, .slice (some ⟨ga, 0, none⟩) n n] 43)) w.heap.size W2.heap.size gh ga (freshBk n) := by
    refine ⟨h1.size, hg, ha, ?_, ?_, ?_, hF⟩
    · rw [hlen]; exact heap_alloc_new W2 _
    · rw [show hasBk (freshBk n) = List.replicate n false by simp [hasBk, freshBk]]
      exact (hl.block gh (Array.getElem?_eq_some_iff.1 hh).1).trans hh
    · rw [show numBk (freshBk n) = List.replicate n 0 by simp [numBk, freshBk]]
      exact (hl.block ga (Array.getElem?_eq_some_iff.1 hw).1).trans hw
  refine Or.inr ⟨hm, W2.heap.size, gh, ga, rfl, ?_, below_chain (below_chain h1 hl) (Below.refl _ _).drew⟩
  rw [Int.toNat_natCast]
  exact hR.since (Below.refl _ _).drew
theorem two_made (w : World) (x y : Array Value) (s t : TypeId) : Below w.heap.size w ((w.alloc (.cells x s)).alloc (.cells y t)) ∧ ((w.alloc (.cells x s)).alloc (.cells y t)).heap.size = w.heap.size + 1 + 1 ∧ ((w.alloc (.cells x s)).alloc (.cells y t)).heap[w.heap.size]? = some (.cells x s (0, 0)) ∧ ((w.alloc (.cells x s)).alloc (.cells y t)).heap[w.heap.size + 1]? = some (.cells y t (0, 0)) := by
  have h1 : Below w.heap.size w (w.alloc (.cells x s)) := (Below.refl _ _).alloc (Nat.le_refl _) _
  have h2 : Below (w.alloc (.cells x s)).heap.size (w.alloc (.cells x s)) ((w.alloc (.cells x s)).alloc (.cells y t)) := (Below.refl _ _).alloc (Nat.le_refl _) _
  have e1 : (w.alloc (.cells x s)).heap.size = w.heap.size + 1 := by simp
  have e2 := heap_alloc_new w (.cells x s)
  have e3 := heap_alloc_new (w.alloc (.cells x s)) (.cells y t)
  refine ⟨below_chain h1 h2, by simp, (h2.block _ (by omega)).trans e2, ?_⟩
  rw [e1] at e3; exact e3
set_option maxHeartbeats 4000000 in
theorem refbnew_any (x : Int) (w : World) : Calls Try.prog 8 #[.int .i64 x] w (NewRB x w) := by
  by_cases h1 : x < 1
  · have hm : mayBk x = false := by unfold mayBk; rw [decide_eq_false (by omega)]; rfl
    go_enter Try.func8, Try.ntmps8
    go_wp2_with fail
    go_ret
    exact Or.inl ⟨hm, rfl, Below.refl _ _⟩
  by_cases h2 : 256 < x
  · have hm : mayBk x = false := by unfold mayBk; rw [decide_eq_false (p := x ≤ 256) (by omega), Bool.and_false]
    go_enter Try.func8, Try.ntmps8
    go_wp2_with fail
    go_ret
    exact Or.inl ⟨hm, rfl, Below.refl _ _⟩
  · obtain ⟨n, rfl⟩ : ∃ n : Nat, x = (n : Int) := ⟨x.toNat, by omega⟩
    have hm : mayBk (n : Int) = true := by unfold mayBk; rw [decide_eq_true (by omega), decide_eq_true (by omega)]; rfl
    have hn : n ≤ 256 := by omega
    have m1 := run_make_bools n hn
    have m2 := run_make_words n hn
    have HF : Hid (BkW (freshBk n)) := fresh_bkw (by omega) hn
    go_enter Try.func8, Try.ntmps8
    go_wp2_with fail
    go_region_with (simp only [m1, m2])
    · obtain ⟨q1, q2, q3, q4⟩ := two_made w (boolsC (List.replicate n false)) (wordsC (List.replicate n 0)) 4 28
      clear m1 m2
      go_wp2_with fail
      go_ret
      exact new_rb n w _ _ w.heap.size (w.heap.size + 1) hm HF.out q1 q2 (Nat.le_refl _) (by omega) q3 q4
    · obtain ⟨q1, q2, q3, q4⟩ := two_made w (wordsC (List.replicate n 0)) (boolsC (List.replicate n false)) 28 4
      clear m1 m2
      go_wp2_with fail
      go_ret
      exact new_rb n w _ _ (w.heap.size + 1) w.heap.size hm HF.out q1 q2 (by omega) (Nat.le_refl _) q4 q3
def TurnsRB (w : World) (base g gh ga : Nat) (r : Bk × Int) (e : Ending) (w' : World) : Prop := e = .returned (.int .i64 r.2) ∧ RBack w' base g gh ga r.1 ∧ Turn (Blk2 gh ga) w w'
section
variable {w : World} {base g gh ga : Nat} {s : Bk}
set_option maxHeartbeats 8000000 in
theorem refbset_any (p a : Int) (h0 : 0 ≤ a) (h1 : a ≤ 18446744073709551615) (h : RBack w base g gh ga s) : Calls Try.prog 13 #[.pointer (some ⟨g, 0, none⟩), .int .i64 p, .int .u64 a] w (TurnsRB w base g gh ga (setBk s p a)) := by
  have HR := Lib.hid h
  have c0 := h.c0
  have c1 := h.c1
  have hn1 := h.wf.n1
  have hn2 := h.wf.n2
  obtain ⟨n, HN⟩ : ∃ n, Hid (s.length = n) := ⟨_, rfl⟩
  rw [HN.out] at c0 c1 hn1 hn2
  clear h
  by_cases hp : p < 0
  · have HS : Hid (setBk s p a = (s, 2)) := if_pos (Or.inl hp)
    rw [HS.out]
    go_enter Try.func13, Try.ntmps13
    go_wp2_with fail
    go_ret
    exact ⟨rfl, HR.out, Turn.refl _ _⟩
  by_cases hq : (n : Int) ≤ p
  · have HS : Hid (setBk s p a = (s, 2)) := if_pos (Or.inr (by rw [HN.out]; exact hq))
    rw [HS.out]
    go_enter Try.func13, Try.ntmps13
    go_wp2_with fail
    go_ret
    exact ⟨rfl, HR.out, Turn.refl _ _⟩
  obtain ⟨k, rfl⟩ : ∃ k : Nat, p = (k : Int) := ⟨p.toNat, by omega⟩
  have hk : k < n := by omega
  have k0 : (0 : Int) ≤ (k : Int) := by omega
  have k1 : (k : Int) < (n : Int) := by omega
  clear hp hq
  have g6 := HR.out.hAt (k := k) (by rw [HN.out]; exact hk)
  cases HO : s.getD k none with
  | none =>
    rw [HO] at g6
    have g6' : w.cell? ⟨gh, k, none⟩ = some (.bool false) := g6
    have g7 := HR.out.aAt (k := k) (by rw [HN.out]; exact hk)
    obtain ⟨u7, HU7⟩ : ∃ u : Value, Hid (u = .int .u64 ((s.getD k none).getD 0)) := ⟨_, rfl⟩
    rw [← HU7.out] at g7
    have HS : Hid (setBk s (k : Int) a = (s.set k (some a), 0)) := by
      show setBk s (k : Int) a = _
      unfold setBk
      rw [if_neg (by rw [HN.out]; omega), Int.toNat_natCast, HO, if_neg (by simp)]
    have HP : Hid (RBack ((w.setCell ⟨gh, k, none⟩ (.bool true)).setCell ⟨ga, k, none⟩ (.int .u64 a)) base g gh ga (s.set k (some a))) := HR.out.put (some a) (fun v hv => by rw [← Option.some.inj hv]; exact ⟨h0, h1⟩)
    have HT : Hid (Turn (Blk2 gh ga) w ((w.setCell ⟨gh, k, none⟩ (.bool true)).setCell ⟨ga, k, none⟩ (.int .u64 a))) := (Turn.of_setCell (fp := Blk2 gh ga) ⟨gh, k, none⟩ (.bool true) (Or.inl rfl)).trans (Turn.of_setCell (fp := Blk2 gh ga) ⟨ga, k, none⟩ (.int .u64 a) (Or.inr rfl)) fun b hb => Or.inl hb
    have hha := HR.out.ha
    have hhg := HR.out.hg
    have f6 := HR.out.fh k
    have f7 := HR.out.fa k
    rw [HS.out]
    clear g6
    go_enter Try.func13, Try.ntmps13
    go_wp2_with fail
    go_region
    obtain ⟨W9, HW9⟩ : ∃ W9, Hid (W9 = (w.setCell ⟨gh, k, none⟩ (.bool true)).setCell ⟨ga, k, none⟩ (.int .u64 a)) := ⟨_, rfl⟩
    rw [← HW9.out] at HP HT ⊢
    have D9 : Below W9.heap.size W9 W9.drew := (Below.refl _ _).drew
    have P9 := Lib.hid (HP.out.since D9)
    have T9 : Hid (Turn (Blk2 gh ga) w W9.drew) := HT.out.trans (Turn.of_below (fp := fun _ => False) D9) fun b hb => hb.elim
    go_wp2_with fail
    go_ret
    exact ⟨rfl, P9.out, T9.out⟩
  | some o =>
    rw [HO] at g6
    have g6' : w.cell? ⟨gh, k, none⟩ = some (.bool true) := g6
    have HS : Hid (setBk s (k : Int) a = (s, 9)) := by
      show setBk s (k : Int) a = _
      unfold setBk
      rw [if_neg (by rw [HN.out]; omega), Int.toNat_natCast, HO, if_pos (by rfl)]
    rw [HS.out]
    clear g6
    go_enter Try.func13, Try.ntmps13
    go_wp2_with fail
    go_ret
    exact ⟨rfl, HR.out, Turn.refl _ _⟩
set_option maxHeartbeats 8000000 in
theorem refbclear_any (p : Int) (h : RBack w base g gh ga s) : Calls Try.prog 11 #[.pointer (some ⟨g, 0, none⟩), .int .i64 p] w (TurnsRB w base g gh ga (clearBk s p)) := by
  have HR := Lib.hid h
  have c0 := h.c0
  have c1 := h.c1
  have hn1 := h.wf.n1
  have hn2 := h.wf.n2
  obtain ⟨n, HN⟩ : ∃ n, Hid (s.length = n) := ⟨_, rfl⟩
  rw [HN.out] at c0 c1 hn1 hn2
  clear h
  by_cases hp : p < 0
  · have HS : Hid (clearBk s p = (s, 2)) := if_pos (Or.inl hp)
    rw [HS.out]
    go_enter Try.func11, Try.ntmps11
    go_wp2_with fail
    go_ret
    exact ⟨rfl, HR.out, Turn.refl _ _⟩
  by_cases hq : (n : Int) ≤ p
  · have HS : Hid (clearBk s p = (s, 2)) := if_pos (Or.inr (by rw [HN.out]; exact hq))
    rw [HS.out]
    go_enter Try.func11, Try.ntmps11
    go_wp2_with fail
    go_ret
    exact ⟨rfl, HR.out, Turn.refl _ _⟩
  obtain ⟨k, rfl⟩ : ∃ k : Nat, p = (k : Int) := ⟨p.toNat, by omega⟩
  have hk : k < n := by omega
  have k0 : (0 : Int) ≤ (k : Int) := by omega
  have k1 : (k : Int) < (n : Int) := by omega
  clear hp hq
  have g6 := HR.out.hAt (k := k) (by rw [HN.out]; exact hk)
  cases HO : s.getD k none with
  | none =>
    rw [HO] at g6
    have g6' : w.cell? ⟨gh, k, none⟩ = some (.bool false) := g6
    have HS : Hid (clearBk s (k : Int) = (s, 8)) := by
      show clearBk s (k : Int) = _
      unfold clearBk
      rw [if_neg (by rw [HN.out]; omega), Int.toNat_natCast, HO, if_pos (by rfl)]
    rw [HS.out]
    clear g6
    go_enter Try.func11, Try.ntmps11
    go_wp2_with fail
    go_ret
    exact ⟨rfl, HR.out, Turn.refl _ _⟩
  | some o =>
    rw [HO] at g6
    have g6' : w.cell? ⟨gh, k, none⟩ = some (.bool true) := g6
    have g7 := HR.out.aAt (k := k) (by rw [HN.out]; exact hk)
    obtain ⟨u7, HU7⟩ : ∃ u : Value, Hid (u = .int .u64 ((s.getD k none).getD 0)) := ⟨_, rfl⟩
    rw [← HU7.out] at g7
    have HS : Hid (clearBk s (k : Int) = (s.set k none, 0)) := by
      show clearBk s (k : Int) = _
      unfold clearBk
      rw [if_neg (by rw [HN.out]; omega), Int.toNat_natCast, HO, if_neg (by simp)]
    have HP : Hid (RBack ((w.setCell ⟨gh, k, none⟩ (.bool false)).setCell ⟨ga, k, none⟩ (.int .u64 0)) base g gh ga (s.set k none)) := HR.out.put none (fun v hv => by cases hv)
    have HT : Hid (Turn (Blk2 gh ga) w ((w.setCell ⟨gh, k, none⟩ (.bool false)).setCell ⟨ga, k, none⟩ (.int .u64 0))) := (Turn.of_setCell (fp := Blk2 gh ga) ⟨gh, k, none⟩ (.bool false) (Or.inl rfl)).trans (Turn.of_setCell (fp := Blk2 gh ga) ⟨ga, k, none⟩ (.int .u64 0) (Or.inr rfl)) fun b hb => Or.inl hb
    have hha := HR.out.ha
    have hhg := HR.out.hg
    have f6 := HR.out.fh k
    have f7 := HR.out.fa k
    rw [HS.out]
    clear g6
    go_enter Try.func11, Try.ntmps11
    go_wp2_with fail
    go_region
    obtain ⟨W9, HW9⟩ : ∃ W9, Hid (W9 = (w.setCell ⟨gh, k, none⟩ (.bool false)).setCell ⟨ga, k, none⟩ (.int .u64 0)) := ⟨_, rfl⟩
    rw [← HW9.out] at HP HT ⊢
    have D9 : Below W9.heap.size W9 W9.drew := (Below.refl _ _).drew
    have P9 := Lib.hid (HP.out.since D9)
    have T9 : Hid (Turn (Blk2 gh ga) w W9.drew) := HT.out.trans (Turn.of_below (fp := fun _ => False) D9) fun b hb => hb.elim
    go_wp2_with fail
    go_ret
    exact ⟨rfl, P9.out, T9.out⟩
end
end Go.Proofs.Ytiojnpoefbnjoaa
