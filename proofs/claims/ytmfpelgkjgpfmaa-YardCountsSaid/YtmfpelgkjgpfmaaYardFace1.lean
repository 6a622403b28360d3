/- The landed yard: what its calls answer, and leave. Conditions: the yard's cells. -/
import Derived.Test.YtmfpelgkjgpfmaaYardFind
set_option linter.unusedVariables false
set_option linter.unusedSimpArgs false
namespace Go.Proofs.Ytmfpelgkjgpfmaa
open Go.RowKit

theorem lits {w : World} (xs : List Int) (cs : Array Value) (hcs : cs = (intK.cells xs).toArray) (hx : ∀ x ∈ xs, intK.wf x) : intK.Lie (w.alloc (.cells cs 3)) (w.alloc (.cells cs 3)).heap.size (some ⟨w.heap.size, 0, none⟩) xs.length xs := by
  subst hcs
  refine Kind.lie_of rfl hx (by simp) fun j u hu => ?_
  rw [cell_new]
  simpa using hu
theorem ErrNew.elder {w W1 W2 : World} {fp : Nat → Prop} {k : Int} {v : Value} (h : ErrNew W1 fp W2 k v) (hb : w.heap.size ≤ W1.heap.size) : ErrNew w fp W2 k v := by
  rcases h with h | ⟨h0, g, s, e, h1, h2, h3, h4⟩
  · exact Or.inl h
  · exact Or.inr ⟨h0, g, s, e, h1, h2, Nat.le_trans hb h3, h4⟩
section
variable {w W1 W2 : World} {base g : Nat} {fp : Nat → Prop} {s : Yd} {L : YLo} {b : Int} {k : Nat}
theorem lead_err {r : Yd × Int} {q : Int} {v : Value} (hR : YardAt w base fp g s) (hr : r = (s, q)) (HE : ErrNew W1 fp W2 q v) (hB : Below w.heap.size w W1) (hB2 : Below W1.heap.size W1 W2) : YLeads w base fp g r (.returned v) W2 := by
  subst hr
  exact ⟨v, fp, rfl, HE.elder hB.size, hR.since (below_chain hB hB2), Moves.of_below (below_chain hB hB2)⟩
theorem lead_ok {r : Yd × Int} {s' : Yd} (hR : YardAt w base fp g s) (hi : L.In s.S.length fp) (hr : r = (s', 0)) (h1 : YRep W2 base g s' L) (hl : s'.S.length = s.S.length) (hw : YW s') (ht : Turn fp w W2) : YLeads w base fp g r (.returned .nilIface) W2 := by
  subst hr
  obtain ⟨h2, h3⟩ := yard_turned hR hi h1 hl hw ht
  exact ⟨_, fp, rfl, ErrNew.none_, h2, h3⟩
theorem findN_zero {xs : List Int} (hw : YW s) (h : findN s b xs = 0) : ∃ k : Nat, b = (k : Int) ∧ k < s.S.length ∧ xs.contains (s.S.getD k 0) = true := by
  unfold findN at h
  by_cases h0 : stY s b = 0
  · rw [if_pos h0] at h; cases h
  · rw [if_neg h0] at h
    obtain ⟨k, rfl, hk⟩ := (stY_ne hw).1 h0
    rw [stY_at hk] at h
    refine ⟨k, rfl, hk, ?_⟩
    by_cases h2 : xs.contains (s.S.getD k 0) = true
    · exact h2
    · rw [if_neg h2] at h; cases h
theorem contains1 {x a : Int} (h : [a].contains x = true) : x = a := by simpa using h
theorem contains2 {x a c : Int} (h : [a, c].contains x = true) : x = a ∨ x = c := by simpa using h
theorem contains3 {x a c d : Int} (h : [a, c, d].contains x = true) : x = a ∨ x = c ∨ x = d := by simpa using h
theorem open_bad (h : findN s b [1] ≠ 0) : openY s b = (s, findN s b [1]) := by
  unfold findN at h ⊢
  unfold openY
  by_cases h0 : stY s b = 0
  · rw [if_pos h0, if_pos h0]
  · rw [if_neg h0] at h ⊢
    rw [if_neg h0]
    by_cases h1 : stY s b = 1
    · rw [h1] at h; exact absurd rfl h
    · rw [if_neg h1, if_neg (fun e => h1 (contains1 e))]
theorem open_ok (hw : YW s) (hk : k < s.S.length) (h1 : s.S.getD k 0 = 1) : openY s (k : Int) = (s.setS k 2, 0) := by
  unfold openY
  have h2 := (hw.fr k hk h1).1
  rw [stY_at hk, h1, if_neg (by decide), if_pos rfl, Int.toNat_natCast]
  have h3 := setST_T (s := s) (k := k) 2
  rw [h2] at h3
  rw [h3]
theorem seal_bad (h : findN s b [2] ≠ 0) : sealY s b = (s, findN s b [2]) := by
  unfold findN at h ⊢
  unfold sealY
  by_cases h0 : stY s b = 0
  · rw [if_pos h0, if_pos h0]
  · rw [if_neg h0] at h ⊢
    rw [if_neg h0]
    by_cases h1 : stY s b = 2
    · rw [h1] at h; exact absurd rfl h
    · rw [if_pos h1, if_neg (fun e => h1 (contains1 e))]
theorem seal_ok (hk : k < s.S.length) (h1 : s.S.getD k 0 = 2) : sealY s (k : Int) = (s.setS k 3, 0) := by
  unfold sealY
  rw [stY_at hk, h1, if_neg (by decide), if_neg (by decide), Int.toNat_natCast]
theorem retire_bad (hw : YW s) (h : findN s b [1, 2, 3] ≠ 0) : retireY s b = (s, findN s b [1, 2, 3]) := by
  unfold findN at h ⊢
  unfold retireY
  by_cases h0 : stY s b = 0
  · rw [if_pos h0, if_pos h0]
  · rw [if_neg h0] at h ⊢
    rw [if_neg h0]
    by_cases h1 : stY s b = 4
    · rw [if_pos h1, h1]; rfl
    · have h2 := stY_bd (b := b) hw
      have h3 : [(1 : Int), 2, 3].contains (stY s b) = true := by simp; omega
      rw [if_pos h3] at h; exact absurd rfl h
theorem retire_ok (hk : k < s.S.length) (h1 : [(1 : Int), 2, 3].contains (s.S.getD k 0) = true) : retireY s (k : Int) = (s.setS k 4, 0) := by
  have h2 := contains3 h1
  unfold retireY
  rw [stY_at hk, if_neg (by omega), if_neg (by omega), Int.toNat_natCast]
set_option maxHeartbeats 2000000 in
theorem yopen_any (b : Int) (hD : YardAt w base fp g s) : Calls Try.prog 9 #[.pointer (some ⟨g, 0, none⟩), .int .i64 b] w (YLeads w base fp g (openY s b)) := by
  obtain ⟨L, hR, hI⟩ := hD.ex
  have hw := hD.wf
  have HD := Lib.hid hD
  have HI := Lib.hid hI
  obtain ⟨W1, HW1⟩ : ∃ W1, Hid (W1 = w.alloc (.cells #[.int .i64 1] 3)) := ⟨_, rfl⟩
  have B1 : Hid (Below w.heap.size w W1) := by rw [HW1.out]; exact (Below.refl _ _).alloc (Nat.le_refl _) _
  have hA : intK.Lie W1 W1.heap.size (some ⟨w.heap.size, 0, none⟩) 1 [1] := by rw [HW1.out]; exact lits [1] #[.int .i64 1] rfl (by intro x hx; simp at hx; show _ ∧ _; omega)
  have hR1 := hR.since B1.out
  by_cases hq : findN s b [1] = 0
  · obtain ⟨k, rfl, hk, hx⟩ := findN_zero hw hq
    have C1 := fun st => Lib.hid (yfind_ok st k _ 1 1 [1] hR1 hw hk (by omega) hA hx)
    have CK := hR1.block hk
    have d0 := CK.c0
    have f0 := CK.f0
    have HR := Lib.hid (open_ok hw hk (contains1 hx))
    have HP := Lib.hid (hR1.putSt hk 2)
    have hfp := hI.ab
    have HT : Hid (Turn fp w (W1.setCell (L.ab.add (k * 3)) (.int .i64 2))) := (Turn.of_below B1.out).trans (Turn.of_setCell (fp := fp) (L.ab.add (k * 3)) _ (by rw [addr_block]; exact hfp)) (fun b hb => Or.inl hb)
    have HY : Hid (YW (s.setS k 2)) := by
      have := yw_open (b := (k : Int)) hw
      rw [HR.out] at this
      exact this
    have HLN : Hid ((s.setS k 2).S.length = s.S.length) := by show _ = _; simp [Yd.setS]
    obtain ⟨p, HPP⟩ : ∃ p, Hid (L.ab.add (k * 3) = p) := ⟨_, rfl⟩
    rw [HPP.out] at C1 d0 f0 HP HT
    clear hD hR hI hw hA hR1 hq hx CK hfp HPP
    go_enter Try.func9, Try.ntmps9
    go_wp2_with fail
    rw [← HW1.out]
    refine (C1 _).out.mono ?_
    rintro e w' ⟨rfl, rfl⟩
    go_wp2_with fail
    go_ret
    exact lead_ok HD.out HI.out HR.out HP.out HLN.out HY.out HT.out
  · have C1 := fun st => Lib.hid (yfind_bad (fp := fp) st b _ 1 1 [1] hR1 hw (fun b hb => Nat.lt_of_lt_of_le (hD.lt b hb) B1.out.size) (by omega) hA hq)
    have HR := Lib.hid (open_bad hq)
    obtain ⟨q, HQ⟩ : ∃ q, Hid (findN s b [1] = q) := ⟨_, rfl⟩
    rw [HQ.out] at C1 HR hq
    have HNZ := Lib.hid hq
    clear hD hR hI hw hA hR1 hq
    go_enter Try.func9, Try.ntmps9
    go_wp2_with fail
    rw [← HW1.out]
    refine (C1 _).out.mono ?_
    rintro e W2 ⟨v, rfl, HE, HB⟩
    obtain ⟨xv, rfl⟩ := (HE.wrong HNZ.out).ne
    have HE := Lib.hid HE
    have HB := Lib.hid HB
    go_wp2_with fail
    go_ret
    exact lead_err HD.out HR.out HE.out B1.out HB.out
set_option maxHeartbeats 2000000 in
theorem yseal_any (b : Int) (hD : YardAt w base fp g s) : Calls Try.prog 12 #[.pointer (some ⟨g, 0, none⟩), .int .i64 b] w (YLeads w base fp g (sealY s b)) := by
  obtain ⟨L, hR, hI⟩ := hD.ex
  have hw := hD.wf
  have HD := Lib.hid hD
  have HI := Lib.hid hI
  obtain ⟨W1, HW1⟩ : ∃ W1, Hid (W1 = w.alloc (.cells #[.int .i64 2] 3)) := ⟨_, rfl⟩
  have B1 : Hid (Below w.heap.size w W1) := by rw [HW1.out]; exact (Below.refl _ _).alloc (Nat.le_refl _) _
  have hA : intK.Lie W1 W1.heap.size (some ⟨w.heap.size, 0, none⟩) 1 [2] := by rw [HW1.out]; exact lits [2] #[.int .i64 2] rfl (by intro x hx; simp at hx; show _ ∧ _; omega)
  have hR1 := hR.since B1.out
  by_cases hq : findN s b [2] = 0
  · obtain ⟨k, rfl, hk, hx⟩ := findN_zero hw hq
    have C1 := fun st => Lib.hid (yfind_ok st k _ 1 1 [2] hR1 hw hk (by omega) hA hx)
    have CK := hR1.block hk
    have d0 := CK.c0
    have f0 := CK.f0
    have HR := Lib.hid (seal_ok hk (contains1 hx))
    have HP := Lib.hid (hR1.putSt hk 3)
    have hfp := hI.ab
    have HT : Hid (Turn fp w (W1.setCell (L.ab.add (k * 3)) (.int .i64 3))) := (Turn.of_below B1.out).trans (Turn.of_setCell (fp := fp) (L.ab.add (k * 3)) _ (by rw [addr_block]; exact hfp)) (fun b hb => Or.inl hb)
    have HY : Hid (YW (s.setS k 3)) := by
      have := yw_seal (b := (k : Int)) hw
      rw [HR.out] at this
      exact this
    have HLN : Hid ((s.setS k 3).S.length = s.S.length) := by show _ = _; simp [Yd.setS]
    obtain ⟨p, HPP⟩ : ∃ p, Hid (L.ab.add (k * 3) = p) := ⟨_, rfl⟩
    rw [HPP.out] at C1 d0 f0 HP HT
    clear hD hR hI hw hA hR1 hq hx CK hfp HPP
    go_enter Try.func12, Try.ntmps12
    go_wp2_with fail
    rw [← HW1.out]
    refine (C1 _).out.mono ?_
    rintro e w' ⟨rfl, rfl⟩
    go_wp2_with fail
    go_ret
    exact lead_ok HD.out HI.out HR.out HP.out HLN.out HY.out HT.out
  · have C1 := fun st => Lib.hid (yfind_bad (fp := fp) st b _ 1 1 [2] hR1 hw (fun b hb => Nat.lt_of_lt_of_le (hD.lt b hb) B1.out.size) (by omega) hA hq)
    have HR := Lib.hid (seal_bad hq)
    obtain ⟨q, HQ⟩ : ∃ q, Hid (findN s b [2] = q) := ⟨_, rfl⟩
    rw [HQ.out] at C1 HR hq
    have HNZ := Lib.hid hq
    clear hD hR hI hw hA hR1 hq
    go_enter Try.func12, Try.ntmps12
    go_wp2_with fail
    rw [← HW1.out]
    refine (C1 _).out.mono ?_
    rintro e W2 ⟨v, rfl, HE, HB⟩
    obtain ⟨xv, rfl⟩ := (HE.wrong HNZ.out).ne
    have HE := Lib.hid HE
    have HB := Lib.hid HB
    go_wp2_with fail
    go_ret
    exact lead_err HD.out HR.out HE.out B1.out HB.out
set_option maxHeartbeats 2000000 in
theorem yretire_any (b : Int) (hD : YardAt w base fp g s) : Calls Try.prog 19 #[.pointer (some ⟨g, 0, none⟩), .int .i64 b] w (YLeads w base fp g (retireY s b)) := by
  obtain ⟨L, hR, hI⟩ := hD.ex
  have hw := hD.wf
  have HD := Lib.hid hD
  have HI := Lib.hid hI
  obtain ⟨W1, HW1⟩ : ∃ W1, Hid (W1 = w.alloc (.cells #[.int .i64 1, .int .i64 2, .int .i64 3] 3)) := ⟨_, rfl⟩
  have B1 : Hid (Below w.heap.size w W1) := by rw [HW1.out]; exact (Below.refl _ _).alloc (Nat.le_refl _) _
  have hA : intK.Lie W1 W1.heap.size (some ⟨w.heap.size, 0, none⟩) 3 [1, 2, 3] := by rw [HW1.out]; exact lits [1, 2, 3] #[.int .i64 1, .int .i64 2, .int .i64 3] rfl (by intro x hx; simp at hx; show _ ∧ _; omega)
  have hR1 := hR.since B1.out
  by_cases hq : findN s b [1, 2, 3] = 0
  · obtain ⟨k, rfl, hk, hx⟩ := findN_zero hw hq
    have C1 := fun st => Lib.hid (yfind_ok st k _ 3 3 [1, 2, 3] hR1 hw hk (by omega) hA hx)
    have CK := hR1.block hk
    have d0 := CK.c0
    have f0 := CK.f0
    have HR := Lib.hid (retire_ok hk hx)
    have HP := Lib.hid (hR1.putSt hk 4)
    have hfp := hI.ab
    have HT : Hid (Turn fp w (W1.setCell (L.ab.add (k * 3)) (.int .i64 4))) := (Turn.of_below B1.out).trans (Turn.of_setCell (fp := fp) (L.ab.add (k * 3)) _ (by rw [addr_block]; exact hfp)) (fun b hb => Or.inl hb)
    have HY : Hid (YW (s.setS k 4)) := by
      have := yw_retire (b := (k : Int)) hw
      rw [HR.out] at this
      exact this
    have HLN : Hid ((s.setS k 4).S.length = s.S.length) := by show _ = _; simp [Yd.setS]
    obtain ⟨p, HPP⟩ : ∃ p, Hid (L.ab.add (k * 3) = p) := ⟨_, rfl⟩
    rw [HPP.out] at C1 d0 f0 HP HT
    clear hD hR hI hw hA hR1 hq hx CK hfp HPP
    go_enter Try.func19, Try.ntmps19
    go_wp2_with fail
    rw [← HW1.out]
    refine (C1 _).out.mono ?_
    rintro e w' ⟨rfl, rfl⟩
    go_wp2_with fail
    go_ret
    exact lead_ok HD.out HI.out HR.out HP.out HLN.out HY.out HT.out
  · have C1 := fun st => Lib.hid (yfind_bad (fp := fp) st b _ 3 3 [1, 2, 3] hR1 hw (fun b hb => Nat.lt_of_lt_of_le (hD.lt b hb) B1.out.size) (by omega) hA hq)
    have HR := Lib.hid (retire_bad hw hq)
    obtain ⟨q, HQ⟩ : ∃ q, Hid (findN s b [1, 2, 3] = q) := ⟨_, rfl⟩
    rw [HQ.out] at C1 HR hq
    have HNZ := Lib.hid hq
    clear hD hR hI hw hA hR1 hq
    go_enter Try.func19, Try.ntmps19
    go_wp2_with fail
    rw [← HW1.out]
    refine (C1 _).out.mono ?_
    rintro e W2 ⟨v, rfl, HE, HB⟩
    obtain ⟨xv, rfl⟩ := (HE.wrong HNZ.out).ne
    have HE := Lib.hid HE
    have HB := Lib.hid HB
    go_wp2_with fail
    go_ret
    exact lead_err HD.out HR.out HE.out B1.out HB.out
theorem next_bad (h : findN s b [2] ≠ 0) : nextY s b = (s, 0, findN s b [2]) := by
  unfold findN at h ⊢
  unfold nextY
  by_cases h0 : stY s b = 0
  · rw [if_pos h0, if_pos h0]
  · rw [if_neg h0] at h ⊢
    rw [if_neg h0]
    by_cases h1 : stY s b = 2
    · rw [h1] at h; exact absurd rfl h
    · rw [if_pos h1, if_neg (fun e => h1 (contains1 e))]
theorem next_full (hw : YW s) (hk : k < s.S.length) (h1 : s.S.getD k 0 = 2) (h2 : s.T.getD k 0 = (s.P : Int)) : nextY s (k : Int) = (s, 0, 7) := by
  unfold nextY
  rw [stY_at hk, h1, if_neg (by decide), if_neg (by decide), Int.toNat_natCast, if_pos (by omega)]
theorem next_ok (hw : YW s) (hk : k < s.S.length) (h1 : s.S.getD k 0 = 2) (h2 : s.T.getD k 0 ≠ (s.P : Int)) : nextY s (k : Int) = (s.setT k (s.T.getD k 0 + 1), s.T.getD k 0, 0) := by
  have := hw.tk k hk
  unfold nextY
  rw [stY_at hk, h1, if_neg (by decide), if_neg (by decide), Int.toNat_natCast, if_neg (by omega)]
theorem next_err {r : Yd × Int × Int} {q : Int} {v : Value} (hR : YardAt w base fp g s) (hr : r = (s, 0, q)) (HE : ErrNew W1 fp W2 q v) (hB : Below w.heap.size w W1) (hB2 : Below W1.heap.size W1 W2) : YNext w base fp g r (.returned (.tuple #[.int .i64 0, v])) W2 := by
  subst hr
  exact ⟨v, fp, rfl, HE.elder hB.size, hR.since (below_chain hB hB2), Moves.of_below (below_chain hB hB2)⟩
theorem next_lead {r : Yd × Int × Int} {s' : Yd} {x : Int} (hR : YardAt w base fp g s) (hi : L.In s.S.length fp) (hr : r = (s', x, 0)) (h1 : YRep W2 base g s' L) (hl : s'.S.length = s.S.length) (hw : YW s') (ht : Turn fp w W2) : YNext w base fp g r (.returned (.tuple #[.int .i64 x, .nilIface])) W2 := by
  subst hr
  obtain ⟨h2, h3⟩ := yard_turned hR hi h1 hl hw ht
  exact ⟨_, fp, rfl, ErrNew.none_, h2, h3⟩
set_option maxHeartbeats 2000000 in
theorem ynext_any (b : Int) (hD : YardAt w base fp g s) : Calls Try.prog 11 #[.pointer (some ⟨g, 0, none⟩), .int .i64 b] w (YNext w base fp g (nextY s b)) := by
  obtain ⟨L, hR, hI⟩ := hD.ex
  have hw := hD.wf
  have HD := Lib.hid hD
  have HI := Lib.hid hI
  obtain ⟨W1, HW1⟩ : ∃ W1, Hid (W1 = w.alloc (.cells #[.int .i64 2] 3)) := ⟨_, rfl⟩
  have B1 : Hid (Below w.heap.size w W1) := by rw [HW1.out]; exact (Below.refl _ _).alloc (Nat.le_refl _) _
  have hA : intK.Lie W1 W1.heap.size (some ⟨w.heap.size, 0, none⟩) 1 [2] := by rw [HW1.out]; exact lits [2] #[.int .i64 2] rfl (by intro x hx; simp at hx; show _ ∧ _; omega)
  have hR1 := hR.since B1.out
  by_cases hq : findN s b [2] = 0
  · obtain ⟨k, rfl, hk, hx⟩ := findN_zero hw hq
    have C1 := fun st => Lib.hid (yfind_ok st k _ 1 1 [2] hR1 hw hk (by omega) hA hx)
    have hx := contains1 hx
    have CK := hR1.block hk
    have d1 := CK.c1
    have d2 := CK.c2
    have f1 := CK.f1
    have ht := hw.tk k hk
    have hp8 := hw.p8
    have e1 : ∀ (j : Nat) (u : Int), (W1.setCell ⟨(L.ab.add (k * 3)).block, (L.ab.add (k * 3)).off + 1, none⟩ (.int .i64 u)).cell? ⟨(L.ab.add (k * 3)).block, (L.ab.add (k * 3)).off + 1, none⟩ = some (.int .i64 u) := fun j u => by apply World.cell?_setCell_same; exact d1
    by_cases h2 : s.T.getD k 0 = (s.P : Int)
    · have HR := Lib.hid (next_full hw hk hx h2)
      have C7 := fun st m => Lib.hid (ywrong_new st 7 (by omega) (W1.drewN m) fp (fun b hb => Nat.lt_of_lt_of_le (hD.lt b hb) (below_drewN B1.out m).size))
      rw [h2] at d1
      obtain ⟨p, HPP⟩ : ∃ p, Hid (L.ab.add (k * 3) = p) := ⟨_, rfl⟩
      rw [HPP.out] at C1 d1 d2 f1
      obtain ⟨P, HPZ⟩ : ∃ P : Nat, Hid (s.P = P) := ⟨_, rfl⟩
      rw [HPZ.out] at d1 d2 hp8
      clear hD hR hI hw hA hR1 hq hx CK HPP h2 ht e1 HPZ
      go_enter Try.func11, Try.ntmps11
      go_wp2_with fail
      rw [← HW1.out]
      refine (C1 _).out.mono ?_
      rintro e w' ⟨rfl, rfl⟩
      go_wp2_with fail
      go_quiet (fail)
      go_wp2_with fail
      refine (C7 _ _).out.mono ?_
      rintro e W2 ⟨v, rfl, HE, HB⟩
      have HE := Lib.hid HE
      have HB := Lib.hid HB
      go_wp2_with fail
      go_ret2
      exact next_err HD.out HR.out HE.out (below_drewN B1.out _) HB.out
    · have HR := Lib.hid (next_ok hw hk hx h2)
      have HP := Lib.hid fun m => (hR1.since (below_drewN (Below.refl _ _) m)).putTk hk hw.lt (s.T.getD k 0 + 1)
      have hfp := hI.ab
      have HT : Hid (∀ m, Turn fp w ((W1.drewN m).setCell ⟨(L.ab.add (k * 3)).block, (L.ab.add (k * 3)).off + 1, none⟩ (.int .i64 (s.T.getD k 0 + 1)))) := fun m => (Turn.of_below (below_drewN B1.out m)).trans (Turn.of_setCell (fp := fp) ⟨(L.ab.add (k * 3)).block, (L.ab.add (k * 3)).off + 1, none⟩ _ (by show fp (L.ab.add (k * 3)).block; rw [addr_block]; exact hfp)) (fun b hb => Or.inl hb)
      have HY : Hid (YW (s.setT k (s.T.getD k 0 + 1))) := by
        have := yw_next (b := (k : Int)) hw
        rw [HR.out] at this
        exact this
      have HLN : Hid ((s.setT k (s.T.getD k 0 + 1)).S.length = s.S.length) := rfl
      obtain ⟨p, HPP⟩ : ∃ p, Hid (L.ab.add (k * 3) = p) := ⟨_, rfl⟩
      rw [HPP.out] at C1 d1 d2 f1 HP HT e1
      obtain ⟨P, HPZ⟩ : ∃ P : Nat, Hid (s.P = P) := ⟨_, rfl⟩
      rw [HPZ.out] at d2 hp8 ht h2
      obtain ⟨t, HTZ⟩ : ∃ t : Nat, s.T.getD k 0 = (t : Int) := ⟨(s.T.getD k 0).toNat, by omega⟩
      rw [HTZ] at d1 HP HT HY HLN HR ht h2
      have e2 := e1 0 ((t : Int) + 1)
      have hlt : t < P := by omega
      clear hD hR hI hw hA hR1 hq hx CK HPP h2 hfp HPZ e1 HTZ
      go_enter Try.func11, Try.ntmps11
      go_wp2_with fail
      rw [← HW1.out]
      refine (C1 _).out.mono ?_
      rintro e w' ⟨rfl, rfl⟩
      go_wp2_with fail
      go_quiet (fail)
      go_wp2_with fail
      go_ret2
      exact next_lead HD.out HI.out HR.out (HP.out _) HLN.out HY.out (HT.out _)
  · have C1 := fun st => Lib.hid (yfind_bad (fp := fp) st b _ 1 1 [2] hR1 hw (fun b hb => Nat.lt_of_lt_of_le (hD.lt b hb) B1.out.size) (by omega) hA hq)
    have HR := Lib.hid (next_bad hq)
    obtain ⟨q, HQ⟩ : ∃ q, Hid (findN s b [2] = q) := ⟨_, rfl⟩
    rw [HQ.out] at C1 HR hq
    have HNZ := Lib.hid hq
    clear hD hR hI hw hA hR1 hq
    go_enter Try.func11, Try.ntmps11
    go_wp2_with fail
    rw [← HW1.out]
    refine (C1 _).out.mono ?_
    rintro e W2 ⟨v, rfl, HE, HB⟩
    obtain ⟨xv, rfl⟩ := (HE.wrong HNZ.out).ne
    have HE := Lib.hid HE
    have HB := Lib.hid HB
    go_wp2_with fail
    go_ret2
    exact next_err HD.out HR.out HE.out B1.out HB.out
end
end Go.Proofs.Ytmfpelgkjgpfmaa
