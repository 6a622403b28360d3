/- The landed yard: Free, Need, Drop, Wash, and the calls that only tell. Conditions: the yard's cells. -/
import Derived.Test.YtmfpelgkjgpfmaaYardFace1
set_option linter.unusedVariables false
set_option linter.unusedSimpArgs false
namespace Go.Proofs.Ytmfpelgkjgpfmaa
open Go.RowKit

theorem uses_getD {N D : List Bool} {P q : Nat} (h : q < P) : (usesV N D P).getD q (false, false) = (N.getD q false, D.getD q false) := getD_map_range _ _ _ _ h
theorem idxF_N (N D : List Bool) (P : Nat) (h : N.length = P) : idxF (·.1) (false, false) (usesV N D P) P = idxB N := by
  unfold idxF idxB
  rw [h]
  congr 1
  refine List.filter_congr fun q hq => ?_
  rw [uses_getD (List.mem_range.1 hq)]
theorem ycount_range (l : List Bool) : ((List.range l.length).filter fun k => l.getD k false).length = l.count true := by
  have h : l = (List.range l.length).map fun k => l.getD k false := by
    apply List.ext_getElem
    · simp
    · intro j h1 h2
      simp [List.getD_eq_getElem?_getD, h1]
  rw [← List.countP_eq_length_filter]
  conv => rhs; rw [h]
  rw [List.count, List.countP_map]
  refine List.countP_congr fun k _ => ?_
  simp
theorem idxF_D (N D : List Bool) (P : Nat) (h : D.length = P) : (idxF (·.2) (false, false) (usesV N D P) P).length = D.count true := by
  rw [← ycount_range D, h]
  unfold idxF
  rw [List.length_map]
  congr 1
  refine List.filter_congr fun q hq => ?_
  rw [uses_getD (List.mem_range.1 hq)]
theorem idxF_S (s : Yd) (L : YLo) (x : Int) : idxF (fun v => v.st == x) BkV.zero (bksV s L) s.S.length = listY s x := by
  unfold idxF listY
  congr 1
  refine List.filter_congr fun q hq => ?_
  rw [show (bksV s L).getD q BkV.zero = (⟨s.S.getD q 0, s.T.getD q 0, ⟨some (L.au q), s.P, s.P⟩⟩ : BkV) from getD_map_range _ _ _ _ (List.mem_range.1 hq)]
theorem uses_none {N D : List Bool} {P : Nat} (h : N.length = P) : (usesV N D P).any (·.1) = false ↔ idxB N = [] := by
  rw [idx_nil]
  constructor
  · intro h1 q
    by_cases hq : q < P
    · cases e : N.getD q false with
      | false => rfl
      | true =>
        refine absurd h1 (fun h3 => Bool.false_ne_true (h3.symm.trans ?_))
        refine List.any_eq_true.2 ⟨(N.getD q false, D.getD q false), List.mem_map.2 ⟨q, List.mem_range.2 hq, rfl⟩, e⟩
    · rw [List.getD_eq_getElem?_getD, List.getElem?_eq_none (by omega)]; rfl
  · intro h1
    refine Bool.eq_false_iff.2 fun h2 => ?_
    obtain ⟨u, hu, e⟩ := List.any_eq_true.1 h2
    obtain ⟨q, _, rfl⟩ := List.mem_map.1 hu
    exact Bool.false_ne_true ((h1 q).symm.trans e)
section
variable {w W1 W2 : World} {base g : Nat} {fp : Nat → Prop} {s : Yd} {L : YLo} {b p : Int} {k q : Nat}
theorem free_bad (h : findN s b [2, 3] ≠ 0) : freeY s b = (s, findN s b [2, 3]) := by
  unfold findN at h ⊢
  unfold freeY
  by_cases h0 : stY s b = 0
  · rw [if_pos h0, if_pos h0]
  · rw [if_neg h0] at h ⊢
    rw [if_neg h0]
    by_cases h1 : [(2 : Int), 3].contains (stY s b) = true
    · rw [if_pos h1] at h; exact absurd rfl h
    · rw [if_neg h1, if_pos (Or.inl ⟨fun e => h1 (by rw [e]; rfl), fun e => h1 (by rw [e]; rfl)⟩)]
theorem free_used (hw : YW s) (hk : k < s.S.length) (h1 : idxB (s.N.getD k []) ≠ []) : freeY s (k : Int) = (s, 9) := by
  have := (hw.st k hk).1
  unfold freeY
  rw [stY_at hk, if_neg (by omega), if_pos (Or.inr _)]
  unfold neededY
  rw [stY_at hk, if_neg (by omega), Int.toNat_natCast]
  exact h1
theorem free_ok (hk : k < s.S.length) (h1 : [(2 : Int), 3].contains (s.S.getD k 0) = true) (h2 : idxB (s.N.getD k []) = []) : freeY s (k : Int) = ((s.setS k 1).setT k 0, 0) := by
  have h3 := contains2 h1
  unfold freeY
  rw [stY_at hk, if_neg (by omega), if_neg, Int.toNat_natCast]
  rintro (h | h)
  · omega
  · refine h ?_
    unfold neededY
    rw [stY_at hk, if_neg (by omega), Int.toNat_natCast]
    exact h2
theorem want_at (hk : k < s.S.length) (hw : YW s) (hq : q < s.P) : pageY s (k : Int) (q : Int) := ⟨(stY_ne hw).2 ⟨k, rfl, hk⟩, by omega, by omega⟩
theorem want_bad (d : Bool) (h : ¬ pageY s b p) : wantY s b p d = (s, 2) := if_pos h
theorem want_no (d : Bool) (hk : k < s.S.length) (hw : YW s) (hq : q < s.P) (h : s.T.getD k 0 ≤ (q : Int) ∨ (s.N.getD k []).getD q false = true) : wantY s (k : Int) (q : Int) d = (s, 9) := by
  unfold wantY isN
  rw [if_neg (not_not_intro (want_at hk hw hq)), Int.toNat_natCast, Int.toNat_natCast, if_pos h]
theorem want_ok (d : Bool) (hk : k < s.S.length) (hw : YW s) (hq : q < s.P) (h1 : (q : Int) < s.T.getD k 0) (h2 : (s.N.getD k []).getD q false = false) : wantY s (k : Int) (q : Int) d = ((s.setN k q true).setD k q d, 0) := by
  unfold wantY isN
  rw [if_neg (not_not_intro (want_at hk hw hq)), Int.toNat_natCast, Int.toNat_natCast, if_neg]
  rw [h2]
  rintro (h | h)
  · omega
  · cases h
theorem neededN_zero (hw : YW s) (h : neededN s b p = 0) : ∃ k q : Nat, b = (k : Int) ∧ k < s.S.length ∧ p = (q : Int) ∧ q < s.P ∧ (s.N.getD k []).getD q false = true := by
  unfold neededN at h
  by_cases hp : pageY s b p
  · rw [if_neg (not_not_intro hp)] at h
    obtain ⟨k, q, rfl, hk, rfl, hq⟩ := page_at hw hp
    refine ⟨k, q, rfl, hk, rfl, hq, ?_⟩
    unfold isN at h
    rw [Int.toNat_natCast, Int.toNat_natCast] at h
    cases e : (s.N.getD k []).getD q false with
    | true => rfl
    | false => rw [e] at h; cases h
  · rw [if_pos hp] at h; cases h
theorem drop_bad (h : neededN s b p ≠ 0) : dropY s b p = (s, neededN s b p) := by
  unfold neededN at h ⊢
  unfold dropY
  by_cases hp : pageY s b p
  · rw [if_neg (not_not_intro hp)] at h ⊢
    rw [if_neg (not_not_intro hp)]
    by_cases h1 : isN s b p = false
    · rw [if_pos h1, if_pos h1]
    · rw [if_neg h1] at h; exact absurd rfl h
  · rw [if_pos hp, if_pos hp]
theorem wash_bad (h : neededN s b p ≠ 0) : washY s b p = (s, neededN s b p) := by
  unfold neededN at h ⊢
  unfold washY
  by_cases hp : pageY s b p
  · rw [if_neg (not_not_intro hp)] at h ⊢
    rw [if_neg (not_not_intro hp)]
    by_cases h1 : isN s b p = false
    · rw [if_pos h1, if_pos h1]
    · rw [if_neg h1] at h; exact absurd rfl h
  · rw [if_pos hp, if_pos hp]
theorem drop_ok (hw : YW s) (hk : k < s.S.length) (hq : q < s.P) (h : (s.N.getD k []).getD q false = true) : dropY s (k : Int) (q : Int) = ((s.setN k q false).setD k q false, 0) := by
  unfold dropY isN
  rw [if_neg (not_not_intro (want_at hk hw hq)), Int.toNat_natCast, Int.toNat_natCast, h, if_neg (by decide)]
theorem wash_ok (hw : YW s) (hk : k < s.S.length) (hq : q < s.P) (h : (s.N.getD k []).getD q false = true) : washY s (k : Int) (q : Int) = (s.setD k q false, 0) := by
  unfold washY isN
  rw [if_neg (not_not_intro (want_at hk hw hq)), Int.toNat_natCast, Int.toNat_natCast, h, if_neg (by decide)]
set_option maxHeartbeats 2000000 in
theorem yfree_any (b : Int) (hD : YardAt w base fp g s) : Calls Try.prog 15 #[.pointer (some ⟨g, 0, none⟩), .int .i64 b] w (YLeads w base fp g (freeY s b)) := by
  obtain ⟨L, hR, hI⟩ := hD.ex
  have hw := hD.wf
  have HD := Lib.hid hD
  have HI := Lib.hid hI
  obtain ⟨W1, HW1⟩ : ∃ W1, Hid (W1 = w.alloc (.cells #[.int .i64 2, .int .i64 3] 3)) := ⟨_, rfl⟩
  have B1 : Hid (Below w.heap.size w W1) := by rw [HW1.out]; exact (Below.refl _ _).alloc (Nat.le_refl _) _
  have hA : intK.Lie W1 W1.heap.size (some ⟨w.heap.size, 0, none⟩) 2 [2, 3] := by rw [HW1.out]; exact lits [2, 3] #[.int .i64 2, .int .i64 3] rfl (by intro x hx; simp at hx; show _ ∧ _; omega)
  have hR1 := hR.since B1.out
  by_cases hq : findN s b [2, 3] = 0
  · obtain ⟨k, rfl, hk, hx⟩ := findN_zero hw hq
    have C1 := fun st => Lib.hid (yfind_ok st k _ 2 2 [2, 3] hR1 hw hk (by omega) hA hx)
    have CK := hR1.block hk
    have d2 := CK.c2
    have C2 := Lib.hid (ycontainsf_any (some (L.au k)) s.P s.P (usesV (s.N.getD k []) (s.D.getD k []) s.P) W1 (by have := hw.p8; omega) (hR1.ur k hk).lie)
    obtain ⟨qq, HQQ⟩ : ∃ qq, Hid ((usesV (s.N.getD k []) (s.D.getD k []) s.P).any (·.1) = qq) := ⟨_, rfl⟩
    rw [HQQ.out] at C2
    have hN := hw.nl k hk
    cases qq with
    | true =>
      have HR := Lib.hid (free_used hw hk (fun e => by have := (uses_none (D := s.D.getD k []) hN).2 e; rw [HQQ.out] at this; cases this))
      have C7 := fun st W2 (hb : W1.heap.size ≤ W2.heap.size) => Lib.hid (ywrong_new st 9 (by omega) W2 fp (fun b hb2 => Nat.lt_of_lt_of_le (Nat.lt_of_lt_of_le (hD.lt b hb2) B1.out.size) hb))
      obtain ⟨p, HPP⟩ : ∃ p, Hid (L.ab.add (k * 3) = p) := ⟨_, rfl⟩
      rw [HPP.out] at C1 d2
      obtain ⟨P, HPZ⟩ : ∃ P : Nat, Hid (s.P = P) := ⟨_, rfl⟩
      rw [HPZ.out] at d2 C2
      clear hD hR hI hw hA hR1 hq hx CK HPP HPZ hN HQQ
      go_enter Try.func15, Try.ntmps15
      go_wp2_with fail
      rw [← HW1.out]
      refine (C1 _).out.mono ?_
      rintro e w' ⟨rfl, rfl⟩
      go_wp2_with fail
      refine C2.out.mono ?_
      rintro e W2 ⟨rfl, hB2⟩
      have B2 := Lib.hid hB2
      clear hB2
      go_wp2_with fail
      refine (C7 _ W2 B2.out.size).out.mono ?_
      rintro e W3 ⟨v, rfl, HE, HB⟩
      have HE := Lib.hid HE
      have HB := Lib.hid HB
      go_wp2_with fail
      go_ret
      exact lead_err HD.out HR.out HE.out (below_chain B1.out B2.out) HB.out
    | false =>
      have HR := Lib.hid (free_ok hk hx ((uses_none (D := s.D.getD k []) hN).1 HQQ.out))
      have HY : Hid (YW ((s.setS k 1).setT k 0)) := by
        have := yw_free (b := (k : Int)) hw
        rw [HR.out] at this
        exact this
      have HLN : Hid (((s.setS k 1).setT k 0).S.length = s.S.length) := by show _ = _; simp [Yd.setS, Yd.setT]
      have hfp := hI.ab
      have HPUT : Hid (∀ W2, Below W1.heap.size W1 W2 → (∃ u0 u1, W2.cell? (L.ab.add (k * 3)) = some u0 ∧ W2.frozen? (L.ab.add (k * 3)) = false ∧ (W2.setCell (L.ab.add (k * 3)) (.int .i64 1)).cell? ⟨(L.ab.add (k * 3)).block, (L.ab.add (k * 3)).off + 1, none⟩ = some u1 ∧ (W2.setCell (L.ab.add (k * 3)) (.int .i64 1)).frozen? ⟨(L.ab.add (k * 3)).block, (L.ab.add (k * 3)).off + 1, none⟩ = false) ∧ YRep ((W2.setCell (L.ab.add (k * 3)) (.int .i64 1)).setCell ⟨(L.ab.add (k * 3)).block, (L.ab.add (k * 3)).off + 1, none⟩ (.int .i64 0)) base g ((s.setS k 1).setT k 0) L ∧ Turn fp w ((W2.setCell (L.ab.add (k * 3)) (.int .i64 1)).setCell ⟨(L.ab.add (k * 3)).block, (L.ab.add (k * 3)).off + 1, none⟩ (.int .i64 0))) := fun W2 hb => by
        have hl1 : (s.setS k 1).S.length = s.S.length := by simp [Yd.setS]
        have r2 := hR1.since hb
        have c2 := r2.block hk
        have r3 := r2.putSt hk 1
        have c3 := r3.block (k := k) (by rw [hl1]; exact hk)
        have r4 := r3.putTk (k := k) (by rw [hl1]; exact hk) (by rw [hl1]; exact hw.lt) 0
        exact ⟨⟨_, _, c2.c0, c2.f0, c3.c1, c3.f1⟩, r4, ((Turn.of_below (below_chain B1.out hb)).trans (Turn.of_setCell (fp := fp) (L.ab.add (k * 3)) _ (by rw [addr_block]; exact hfp)) (fun b hb => Or.inl hb)).trans (Turn.of_setCell (fp := fp) ⟨(L.ab.add (k * 3)).block, (L.ab.add (k * 3)).off + 1, none⟩ _ (by show fp (L.ab.add (k * 3)).block; rw [addr_block]; exact hfp)) (fun b hb => Or.inl hb)⟩
      obtain ⟨p, HPP⟩ : ∃ p, Hid (L.ab.add (k * 3) = p) := ⟨_, rfl⟩
      rw [HPP.out] at C1 d2 HPUT
      obtain ⟨P, HPZ⟩ : ∃ P : Nat, Hid (s.P = P) := ⟨_, rfl⟩
      rw [HPZ.out] at d2 C2
      clear hD hR hI hw hA hR1 hq hx CK HPP HPZ hN HQQ hfp
      go_enter Try.func15, Try.ntmps15
      go_wp2_with fail
      rw [← HW1.out]
      refine (C1 _).out.mono ?_
      rintro e w' ⟨rfl, rfl⟩
      go_wp2_with fail
      refine C2.out.mono ?_
      rintro e W2 ⟨rfl, hB2⟩
      obtain ⟨⟨u0, u1, h0, h1, h2, h3⟩, hP, hT⟩ := HPUT.out W2 hB2
      have HP := Lib.hid hP
      have HT := Lib.hid hT
      clear hB2 hP hT HPUT
      go_wp2_with fail
      go_ret
      exact lead_ok HD.out HI.out HR.out HP.out HLN.out HY.out HT.out
  · have C1 := fun st => Lib.hid (yfind_bad (fp := fp) st b _ 2 2 [2, 3] hR1 hw (fun b hb => Nat.lt_of_lt_of_le (hD.lt b hb) B1.out.size) (by omega) hA hq)
    have HR := Lib.hid (free_bad hq)
    obtain ⟨q, HQ⟩ : ∃ q, Hid (findN s b [2, 3] = q) := ⟨_, rfl⟩
    rw [HQ.out] at C1 HR hq
    have HNZ := Lib.hid hq
    clear hD hR hI hw hA hR1 hq
    go_enter Try.func15, Try.ntmps15
    go_wp2_with fail
    rw [← HW1.out]
    refine (C1 _).out.mono ?_
    rintro e W2 ⟨v, rfl, HE, HB⟩
    obtain ⟨xv, rfl⟩ := (HE.wrong HNZ.out).ne
    have HE := Lib.hid HE
    have HB := Lib.hid HB
    go_wp2_with fail
    go_ret
    exact lead_err HD.out HR.out HE.out B1.out HB.out
set_option maxHeartbeats 2000000 in
theorem yneed_any (b p : Int) (d : Bool) (hD : YardAt w base fp g s) : Calls Try.prog 14 #[.pointer (some ⟨g, 0, none⟩), .int .i64 b, .int .i64 p, .bool d] w (YLeads w base fp g (wantY s b p d)) := by
  obtain ⟨L, hR, hI⟩ := hD.ex
  have hw := hD.wf
  have HD := Lib.hid hD
  have HI := Lib.hid hI
  by_cases hpg : pageY s b p
  · obtain ⟨k, q, rfl, hk, rfl, hq⟩ := page_at hw hpg
    have C1 := fun st => Lib.hid (yfindpage_ok st k q hR hw hk hq)
    have c0 := hR.c0
    have d1 := (hR.block hk).c1
    have CU := hR.use hk hq
    have e0 := CU.c0
    have e1 := CU.c1
    have f0 := CU.f0
    have f1 := CU.f1
    have hs := hw.n32
    have ht := hw.tk k hk
    have hp8 := hw.p8
    have i0 : (0 : Int) ≤ (k : Int) := by omega
    have i1 : (k : Int) < (s.S.length : Int) := by omega
    have C9 := fun st => Lib.hid (ywrong_new st 9 (by omega) w fp hD.lt)
    obtain ⟨nd, HND⟩ : ∃ nd, Hid ((s.N.getD k []).getD q false = nd) := ⟨_, rfl⟩
    by_cases h1 : s.T.getD k 0 ≤ (q : Int)
    · have HR := Lib.hid (want_no d hk hw hq (Or.inl h1))
      obtain ⟨pp, HPP⟩ : ∃ pp, Hid ((L.au k).add (q * 2) = pp) := ⟨_, rfl⟩
      rw [HPP.out] at C1 e0 e1 f0 f1
      obtain ⟨ad, HAD⟩ : ∃ ad, Hid (L.ab = ad) := ⟨_, rfl⟩
      rw [HAD.out] at c0 d1
      obtain ⟨z, HZ⟩ : ∃ z : Nat, Hid (s.S.length = z) := ⟨_, rfl⟩
      rw [HZ.out] at c0 hs i1
      obtain ⟨t, HTZ⟩ : ∃ t, Hid (s.T.getD k 0 = t) := ⟨_, rfl⟩
      rw [HTZ.out] at d1 h1 ht
      clear hD hR hI hw hk hq hpg CU HPP HAD HZ HTZ ht hp8
      go_enter Try.func14, Try.ntmps14
      go_wp2_with fail
      refine (C1 _).out.mono ?_
      rintro e w' ⟨rfl, rfl⟩
      go_wp2_with fail
      refine (C9 _).out.mono ?_
      rintro e W2 ⟨v, rfl, HE, HB⟩
      have HE := Lib.hid HE
      have HB := Lib.hid HB
      go_wp2_with fail
      go_ret
      exact lead_err HD.out HR.out HE.out (Below.refl _ _) HB.out
    · have h1 : (q : Int) < s.T.getD k 0 := by omega
      cases nd with
      | true =>
        have HR := Lib.hid (want_no d hk hw hq (Or.inr HND.out))
        rw [HND.out] at e0
        obtain ⟨pp, HPP⟩ : ∃ pp, Hid ((L.au k).add (q * 2) = pp) := ⟨_, rfl⟩
        rw [HPP.out] at C1 e0 e1 f0 f1
        obtain ⟨ad, HAD⟩ : ∃ ad, Hid (L.ab = ad) := ⟨_, rfl⟩
        rw [HAD.out] at c0 d1
        obtain ⟨z, HZ⟩ : ∃ z : Nat, Hid (s.S.length = z) := ⟨_, rfl⟩
        rw [HZ.out] at c0 hs i1
        obtain ⟨t, HTZ⟩ : ∃ t, Hid (s.T.getD k 0 = t) := ⟨_, rfl⟩
        rw [HTZ.out] at d1 h1 ht
        clear hD hR hI hw hk hq hpg CU HPP HAD HZ HTZ ht hp8 HND
        go_enter Try.func14, Try.ntmps14
        go_wp2_with fail
        refine (C1 _).out.mono ?_
        rintro e w' ⟨rfl, rfl⟩
        go_wp2_with fail
        refine (C9 _).out.mono ?_
        rintro e W2 ⟨v, rfl, HE, HB⟩
        have HE := Lib.hid HE
        have HB := Lib.hid HB
        go_wp2_with fail
        go_ret
        exact lead_err HD.out HR.out HE.out (Below.refl _ _) HB.out
      | false =>
        have HR := Lib.hid (want_ok d hk hw hq h1 HND.out)
        rw [HND.out] at e0
        have hfp := hI.au k hk
        have r2 := hR.putN hk hw.ln hq (hw.nl k hk) true
        have r2u := r2.use (k := k) (q := q) hk hq
        have r3 := r2.putD (k := k) (q := q) hk hw.ld hq (hw.dl k hk) d
        have g1 := r2u.c1
        have g2 := r2u.f1
        have HP := Lib.hid r3
        have HT : Hid (Turn fp w ((w.setCell ((L.au k).add (q * 2)) (.bool true)).setCell ⟨((L.au k).add (q * 2)).block, ((L.au k).add (q * 2)).off + 1, none⟩ (.bool d))) := (Turn.of_setCell (fp := fp) ((L.au k).add (q * 2)) _ (by rw [addr_block]; exact hfp)).trans (Turn.of_setCell (fp := fp) ⟨((L.au k).add (q * 2)).block, ((L.au k).add (q * 2)).off + 1, none⟩ _ (by show fp ((L.au k).add (q * 2)).block; rw [addr_block]; exact hfp)) (fun b hb => Or.inl hb)
        have HY : Hid (YW ((s.setN k q true).setD k q d)) := by
          have := yw_want (b := (k : Int)) (p := (q : Int)) hw d
          rw [HR.out] at this
          exact this
        have HLN : Hid (((s.setN k q true).setD k q d).S.length = s.S.length) := rfl
        obtain ⟨pp, HPP⟩ : ∃ pp, Hid ((L.au k).add (q * 2) = pp) := ⟨_, rfl⟩
        rw [HPP.out] at C1 e0 e1 f0 f1 g1 g2 HP HT
        obtain ⟨ad, HAD⟩ : ∃ ad, Hid (L.ab = ad) := ⟨_, rfl⟩
        rw [HAD.out] at c0 d1
        obtain ⟨z, HZ⟩ : ∃ z : Nat, Hid (s.S.length = z) := ⟨_, rfl⟩
        rw [HZ.out] at c0 hs i1
        obtain ⟨t, HTZ⟩ : ∃ t, Hid (s.T.getD k 0 = t) := ⟨_, rfl⟩
        rw [HTZ.out] at d1 h1 ht
        clear hD hR hI hw hk hq hpg CU HPP HAD HZ HTZ ht hp8 HND C9 r2 r2u r3 hfp
        go_enter Try.func14, Try.ntmps14
        go_wp2_with fail
        refine (C1 _).out.mono ?_
        rintro e w' ⟨rfl, rfl⟩
        go_wp2_with fail
        go_ret
        exact lead_ok HD.out HI.out HR.out HP.out HLN.out HY.out HT.out
  · have C1 := fun st => Lib.hid (yfindpage_bad (fp := fp) st b p hR hw hD.lt hpg)
    have HR := Lib.hid (want_bad d hpg)
    clear hD hR hI hw hpg
    go_enter Try.func14, Try.ntmps14
    go_wp2_with fail
    refine (C1 _).out.mono ?_
    rintro e W2 ⟨v, rfl, HE, HB⟩
    obtain ⟨xv, rfl⟩ := (HE.wrong (by decide)).ne
    have HE := Lib.hid HE
    have HB := Lib.hid HB
    go_wp2_with fail
    go_ret
    exact lead_err HD.out HR.out HE.out (Below.refl _ _) HB.out
set_option maxHeartbeats 2000000 in
theorem ydrop_any (b p : Int) (hD : YardAt w base fp g s) : Calls Try.prog 16 #[.pointer (some ⟨g, 0, none⟩), .int .i64 b, .int .i64 p] w (YLeads w base fp g (dropY s b p)) := by
  obtain ⟨L, hR, hI⟩ := hD.ex
  have hw := hD.wf
  have HD := Lib.hid hD
  have HI := Lib.hid hI
  by_cases hnn : neededN s b p = 0
  · obtain ⟨k, q, rfl, hk, rfl, hq, hN⟩ := neededN_zero hw hnn
    have C1 := fun st => Lib.hid (yfindneeded_ok st k q hR hw hk hq hN)
    have CU := hR.use hk hq
    have e0 := CU.c0
    have f0 := CU.f0
    have HR := Lib.hid (drop_ok hw hk hq hN)
    have hfp := hI.au k hk
    have r2 := hR.putN hk hw.ln hq (hw.nl k hk) false
    have r2u := r2.use (k := k) (q := q) hk hq
    have r3 := r2.putD (k := k) (q := q) hk hw.ld hq (hw.dl k hk) false
    have g1 := r2u.c1
    have g2 := r2u.f1
    have HP := Lib.hid r3
    have HT : Hid (Turn fp w ((w.setCell ((L.au k).add (q * 2)) (.bool false)).setCell ⟨((L.au k).add (q * 2)).block, ((L.au k).add (q * 2)).off + 1, none⟩ (.bool false))) := (Turn.of_setCell (fp := fp) ((L.au k).add (q * 2)) _ (by rw [addr_block]; exact hfp)).trans (Turn.of_setCell (fp := fp) ⟨((L.au k).add (q * 2)).block, ((L.au k).add (q * 2)).off + 1, none⟩ _ (by show fp ((L.au k).add (q * 2)).block; rw [addr_block]; exact hfp)) (fun b hb => Or.inl hb)
    have HY : Hid (YW ((s.setN k q false).setD k q false)) := by
      have := yw_drop (b := (k : Int)) (p := (q : Int)) hw
      rw [HR.out] at this
      exact this
    have HLN : Hid (((s.setN k q false).setD k q false).S.length = s.S.length) := rfl
    obtain ⟨pp, HPP⟩ : ∃ pp, Hid ((L.au k).add (q * 2) = pp) := ⟨_, rfl⟩
    rw [HPP.out] at C1 e0 f0 g1 g2 HP HT
    clear hD hR hI hw hk hq hnn CU HPP r3 hfp hN r2 r2u
    go_enter Try.func16, Try.ntmps16
    go_wp2_with fail
    refine (C1 _).out.mono ?_
    rintro e w' ⟨rfl, rfl⟩
    go_wp2_with fail
    go_ret
    exact lead_ok HD.out HI.out HR.out HP.out HLN.out HY.out HT.out
  · have C1 := fun st => Lib.hid (yfindneeded_bad (fp := fp) st b p hR hw hD.lt hnn)
    have HR := Lib.hid (drop_bad hnn)
    obtain ⟨q, HQ⟩ : ∃ q, Hid (neededN s b p = q) := ⟨_, rfl⟩
    rw [HQ.out] at C1 HR hnn
    have HNZ := Lib.hid hnn
    clear hD hR hI hw hnn
    go_enter Try.func16, Try.ntmps16
    go_wp2_with fail
    refine (C1 _).out.mono ?_
    rintro e W2 ⟨v, rfl, HE, HB⟩
    obtain ⟨xv, rfl⟩ := (HE.wrong HNZ.out).ne
    have HE := Lib.hid HE
    have HB := Lib.hid HB
    go_wp2_with fail
    go_ret
    exact lead_err HD.out HR.out HE.out (Below.refl _ _) HB.out
set_option maxHeartbeats 2000000 in
theorem ywash_any (b p : Int) (hD : YardAt w base fp g s) : Calls Try.prog 24 #[.pointer (some ⟨g, 0, none⟩), .int .i64 b, .int .i64 p] w (YLeads w base fp g (washY s b p)) := by
  obtain ⟨L, hR, hI⟩ := hD.ex
  have hw := hD.wf
  have HD := Lib.hid hD
  have HI := Lib.hid hI
  by_cases hnn : neededN s b p = 0
  · obtain ⟨k, q, rfl, hk, rfl, hq, hN⟩ := neededN_zero hw hnn
    have C1 := fun st => Lib.hid (yfindneeded_ok st k q hR hw hk hq hN)
    have CU := hR.use hk hq
    have e0 := CU.c0
    have f0 := CU.f0
    have HR := Lib.hid (wash_ok hw hk hq hN)
    have hfp := hI.au k hk
    have r3 := hR.putD (k := k) (q := q) hk hw.ld hq (hw.dl k hk) false
    have g1 := CU.c1
    have g2 := CU.f1
    have HP := Lib.hid r3
    have HT : Hid (Turn fp w (w.setCell ⟨((L.au k).add (q * 2)).block, ((L.au k).add (q * 2)).off + 1, none⟩ (.bool false))) := Turn.of_setCell (fp := fp) ⟨((L.au k).add (q * 2)).block, ((L.au k).add (q * 2)).off + 1, none⟩ _ (by show fp ((L.au k).add (q * 2)).block; rw [addr_block]; exact hfp)
    have HY : Hid (YW (s.setD k q false)) := by
      have := yw_wash (b := (k : Int)) (p := (q : Int)) hw
      rw [HR.out] at this
      exact this
    have HLN : Hid ((s.setD k q false).S.length = s.S.length) := rfl
    obtain ⟨pp, HPP⟩ : ∃ pp, Hid ((L.au k).add (q * 2) = pp) := ⟨_, rfl⟩
    rw [HPP.out] at C1 e0 f0 g1 g2 HP HT
    clear hD hR hI hw hk hq hnn CU HPP r3 hfp hN 
    go_enter Try.func24, Try.ntmps24
    go_wp2_with fail
    refine (C1 _).out.mono ?_
    rintro e w' ⟨rfl, rfl⟩
    go_wp2_with fail
    go_ret
    exact lead_ok HD.out HI.out HR.out HP.out HLN.out HY.out HT.out
  · have C1 := fun st => Lib.hid (yfindneeded_bad (fp := fp) st b p hR hw hD.lt hnn)
    have HR := Lib.hid (wash_bad hnn)
    obtain ⟨q, HQ⟩ : ∃ q, Hid (neededN s b p = q) := ⟨_, rfl⟩
    rw [HQ.out] at C1 HR hnn
    have HNZ := Lib.hid hnn
    clear hD hR hI hw hnn
    go_enter Try.func24, Try.ntmps24
    go_wp2_with fail
    refine (C1 _).out.mono ?_
    rintro e W2 ⟨v, rfl, HE, HB⟩
    obtain ⟨xv, rfl⟩ := (HE.wrong HNZ.out).ne
    have HE := Lib.hid HE
    have HB := Lib.hid HB
    go_wp2_with fail
    go_ret
    exact lead_err HD.out HR.out HE.out (Below.refl _ _) HB.out
set_option maxHeartbeats 2000000 in
theorem ystate_any (b : Int) (hD : YardAt w base fp g s) : Calls Try.prog 13 #[.pointer (some ⟨g, 0, none⟩), .int .i64 b] w (SaysI w (stY s b)) := by
  obtain ⟨L, hR, hI⟩ := hD.ex
  have hw := hD.wf
  have hs := hw.n32
  have HB0 := Lib.hid (Below.refl w.heap.size w)
  have C1 := Lib.hid (yhas_any b hR hs)
  by_cases h0 : stY s b = 0
  · rw [hasY_no hw h0] at C1
    rw [h0]
    clear hD hR hI hw h0 hs
    go_enter Try.func13, Try.ntmps13
    go_wp2_with fail
    refine C1.out.mono ?_
    rintro e w' ⟨rfl, rfl⟩
    go_wp2_with fail
    go_ret
    exact ⟨rfl, HB0⟩
  · obtain ⟨k, rfl, hk⟩ := (stY_ne hw).1 h0
    rw [hasY_at hk] at C1
    have c0 := hR.c0
    have CK := hR.block hk
    have d0 := CK.c0
    have d2 := CK.c2
    rw [stY_at hk]
    obtain ⟨y, HYY⟩ : ∃ y, Hid (s.S.getD k 0 = y) := ⟨_, rfl⟩
    rw [HYY.out] at d0 ⊢
    obtain ⟨ad, HAD⟩ : ∃ ad, Hid (L.ab = ad) := ⟨_, rfl⟩
    rw [HAD.out] at c0 d0 d2
    obtain ⟨z, HZ⟩ : ∃ z : Nat, Hid (s.S.length = z) := ⟨_, rfl⟩
    rw [HZ.out] at c0 hs hk
    have i0 : (0 : Int) ≤ (k : Int) := by omega
    have i1 : (k : Int) < (z : Int) := by omega
    clear hD hR hI hw hk h0 CK HAD HZ
    go_enter Try.func13, Try.ntmps13
    go_wp2_with fail
    refine C1.out.mono ?_
    rintro e w' ⟨rfl, rfl⟩
    go_wp2_with fail
    go_ret
    exact ⟨rfl, HB0⟩
set_option maxHeartbeats 2000000 in
theorem yneeded_any (b : Int) (hD : YardAt w base fp g s) : Calls Try.prog 23 #[.pointer (some ⟨g, 0, none⟩), .int .i64 b] w (GivesI w (neededY s b)) := by
  obtain ⟨L, hR, hI⟩ := hD.ex
  have hw := hD.wf
  have hs := hw.n32
  have HB0 := Lib.hid (Below.refl w.heap.size w)
  have C1 := Lib.hid (yhas_any b hR hs)
  by_cases h0 : stY s b = 0
  · rw [hasY_no hw h0] at C1
    rw [show neededY s b = [] from if_pos h0]
    clear hD hR hI hw h0 hs
    go_enter Try.func23, Try.ntmps23
    go_wp2_with fail
    refine C1.out.mono ?_
    rintro e w' ⟨rfl, rfl⟩
    go_wp2_with fail
    go_ret
    exact ⟨none, 0, 0, rfl, Kind.Row.none_, HB0⟩
  · obtain ⟨k, rfl, hk⟩ := (stY_ne hw).1 h0
    rw [hasY_at hk] at C1
    have c0 := hR.c0
    have CK := hR.block hk
    have d0 := CK.c0
    have d2 := CK.c2
    have hN := hw.nl k hk
    have hDl := hw.dl k hk
    have C2 := Lib.hid (ywhichn_any (some (L.au k)) s.P s.P (usesV (s.N.getD k []) (s.D.getD k []) s.P) w (by have := hw.p8; omega) (hR.ur k hk).lie)
    rw [idxF_N _ _ _ hN] at C2
    rw [show neededY s (k : Int) = idxB (s.N.getD k []) by unfold neededY; rw [if_neg h0, Int.toNat_natCast]]
    obtain ⟨y, HYY⟩ : ∃ y, Hid (idxB (s.N.getD k []) = y) := ⟨_, rfl⟩
    rw [HYY.out] at C2 ⊢
    obtain ⟨P, HPZ⟩ : ∃ P : Nat, Hid (s.P = P) := ⟨_, rfl⟩
    rw [HPZ.out] at d2 C2
    clear hN hDl HPZ HYY
    obtain ⟨ad, HAD⟩ : ∃ ad, Hid (L.ab = ad) := ⟨_, rfl⟩
    rw [HAD.out] at c0 d0 d2
    obtain ⟨z, HZ⟩ : ∃ z : Nat, Hid (s.S.length = z) := ⟨_, rfl⟩
    rw [HZ.out] at c0 hs hk
    have i0 : (0 : Int) ≤ (k : Int) := by omega
    have i1 : (k : Int) < (z : Int) := by omega
    clear hD hR hI hw hk h0 CK HAD HZ
    go_enter Try.func23, Try.ntmps23
    go_wp2_with fail
    refine C1.out.mono ?_
    rintro e w' ⟨rfl, rfl⟩
    go_wp2_with fail
    refine C2.out.mono ?_
    rintro e W2 ⟨A, n, c, rfl, HO, HB⟩
    go_wp2_with fail
    go_ret
    exact ⟨A, n, c, rfl, HO, HB⟩
set_option maxHeartbeats 2000000 in
theorem ydirty_any (b : Int) (hD : YardAt w base fp g s) : Calls Try.prog 17 #[.pointer (some ⟨g, 0, none⟩), .int .i64 b] w (SaysI w (dirtyY s b)) := by
  obtain ⟨L, hR, hI⟩ := hD.ex
  have hw := hD.wf
  have hs := hw.n32
  have HB0 := Lib.hid (Below.refl w.heap.size w)
  have C1 := Lib.hid (yhas_any b hR hs)
  by_cases h0 : stY s b = 0
  · rw [hasY_no hw h0] at C1
    rw [show dirtyY s b = 0 from if_pos h0]
    clear hD hR hI hw h0 hs
    go_enter Try.func17, Try.ntmps17
    go_wp2_with fail
    refine C1.out.mono ?_
    rintro e w' ⟨rfl, rfl⟩
    go_wp2_with fail
    go_ret
    exact ⟨rfl, HB0⟩
  · obtain ⟨k, rfl, hk⟩ := (stY_ne hw).1 h0
    rw [hasY_at hk] at C1
    have c0 := hR.c0
    have CK := hR.block hk
    have d0 := CK.c0
    have d2 := CK.c2
    have hN := hw.nl k hk
    have hDl := hw.dl k hk
    have C2 := Lib.hid (ywhichd_any (some (L.au k)) s.P s.P (usesV (s.N.getD k []) (s.D.getD k []) s.P) w (by have := hw.p8; omega) (hR.ur k hk).lie)
    have hcount := idxF_D (s.N.getD k []) _ _ hDl
    have hle := idxF_len (·.2) (false, false) (usesV (s.N.getD k []) (s.D.getD k []) s.P) s.P
    have hp8 := hw.p8
    rw [show dirtyY s (k : Int) = (s.D.getD k []).count true by unfold dirtyY; rw [if_neg h0, Int.toNat_natCast], ← hcount]
    obtain ⟨y, HYY⟩ : ∃ y, Hid (idxF (·.2) (false, false) (usesV (s.N.getD k []) (s.D.getD k []) s.P) s.P = y) := ⟨_, rfl⟩
    rw [HYY.out] at C2 hle ⊢
    obtain ⟨P, HPZ⟩ : ∃ P : Nat, Hid (s.P = P) := ⟨_, rfl⟩
    rw [HPZ.out] at d2 C2 hle hp8
    have HLE : Hid (y.length ≤ 8) := by show _ ≤ _; omega
    clear hN hDl HPZ HYY hcount hle hp8
    obtain ⟨ad, HAD⟩ : ∃ ad, Hid (L.ab = ad) := ⟨_, rfl⟩
    rw [HAD.out] at c0 d0 d2
    obtain ⟨z, HZ⟩ : ∃ z : Nat, Hid (s.S.length = z) := ⟨_, rfl⟩
    rw [HZ.out] at c0 hs hk
    have i0 : (0 : Int) ≤ (k : Int) := by omega
    have i1 : (k : Int) < (z : Int) := by omega
    clear hD hR hI hw hk h0 CK HAD HZ
    go_enter Try.func17, Try.ntmps17
    go_wp2_with fail
    refine C1.out.mono ?_
    rintro e w' ⟨rfl, rfl⟩
    go_wp2_with fail
    refine C2.out.mono ?_
    rintro e W2 ⟨A, n, c, rfl, HO, HB⟩
    have hn : n ≤ 8 := by rw [← HO.out.len]; exact HLE.out
    have HYL : Hid (y.length = n) := HO.out.len
    go_wp2_with fail
    go_ret
    exact ⟨by rw [HYL.out]; rfl, HB⟩
theorem ymakefunc (fn : Fn) (first cap : Array Value) (w : World) : (Instr.makeFunc fn first cap).run Try.prog w = .ok (.func fn first cap) w := by
  simp [go_sem, Instr.makeFunc]
set_option maxHeartbeats 2000000 in
theorem ylist_any (x : Int) (hD : YardAt w base fp g s) : Calls Try.prog 18 #[.pointer (some ⟨g, 0, none⟩), .int .i64 x] w (GivesI w (listY s x)) := by
  obtain ⟨L, hR, hI⟩ := hD.ex
  have hw := hD.wf
  have hs := hw.n32
  have hmf := ymakefunc
  obtain ⟨W1, HW1⟩ : ∃ W1, Hid (W1 = w.alloc (.cells #[.int .i64 x] 3)) := ⟨_, rfl⟩
  have B1 : Hid (Below w.heap.size w W1) := by rw [HW1.out]; exact (Below.refl _ _).alloc (Nat.le_refl _) _
  have hp : W1.cell? ⟨w.heap.size, 0, none⟩ = some (.int .i64 x) := by rw [HW1.out, cell_new]; rfl
  have hz : w.heap.size < W1.heap.size := by rw [HW1.out]; simp
  have c0 : (w.alloc (.cells #[.int .i64 x] 3)).cell? ⟨g, 0, none⟩ = some (.slice (some L.ab) s.S.length s.S.length) := by rw [← HW1.out]; exact (hR.since B1.out).c0
  have C2 := Lib.hid (ywhichb_any (some L.ab) s.S.length s.S.length (bksV s L) x ⟨w.heap.size, 0, none⟩ W1 (by omega) (hR.since B1.out).br.lie hp hz)
  rw [idxF_S] at C2
  obtain ⟨y, HYY⟩ : ∃ y, Hid (listY s x = y) := ⟨_, rfl⟩
  rw [HYY.out] at C2 ⊢
  obtain ⟨ad, HAD⟩ : ∃ ad, Hid (L.ab = ad) := ⟨_, rfl⟩
  rw [HAD.out] at c0 C2
  obtain ⟨z, HZ⟩ : ∃ z : Nat, Hid (s.S.length = z) := ⟨_, rfl⟩
  rw [HZ.out] at c0 hs C2
  clear hD hR hI hw HAD HZ HYY hp hz
  go_enter Try.func18, Try.ntmps18
  go_wp2_with fail
  rw [← HW1.out]
  refine C2.out.mono ?_
  rintro e W2 ⟨A, n, c, rfl, HO, HB⟩
  go_wp2_with fail
  go_ret
  exact ⟨A, n, c, rfl, HO.out.elder B1.out.size, below_chain B1.out HB.out⟩
end
theorem yopen_nil (b : Int) (w : World) : Calls Try.prog 9 #[.pointer none, .int .i64 b] w fun e w' => ∃ v, e = .returned v ∧ ErrAt (fun b => b < w.heap.size) w' 1 v ∧ Below w.heap.size w w' := by
  obtain ⟨W1, HW1⟩ : ∃ W1, Hid (W1 = w.alloc (.cells #[.int .i64 1] 3)) := ⟨_, rfl⟩
  have B1 : Hid (Below w.heap.size w W1) := by rw [HW1.out]; exact (Below.refl _ _).alloc (Nat.le_refl _) _
  have C1 := fun st => Lib.hid (yfind_nil st b (some ⟨w.heap.size, 0, none⟩) 1 1 W1)
  go_enter Try.func9, Try.ntmps9
  go_wp2_with fail
  rw [← HW1.out]
  refine (C1 _).out.mono ?_
  rintro e W2 ⟨v, rfl, HE, HB⟩
  obtain ⟨xv, rfl⟩ := (HE.wrong (by decide)).ne
  have HE := Lib.hid HE
  have HB := Lib.hid HB
  go_wp2_with fail
  go_ret
  refine ⟨_, rfl, ?_, below_chain B1.out HB.out⟩
  rcases HE.out with ⟨h, _⟩ | ⟨h0, g, s, e, h1, h2, h3, h4⟩
  · cases h
  · exact Or.inr ⟨h0, g, s, e, h1, h2, fun hg => h4 (Nat.lt_of_lt_of_le hg B1.out.size)⟩
theorem ystate_nil (b : Int) (w : World) : Calls Try.prog 13 #[.pointer none, .int .i64 b] w (SaysI w 0) := by
  have C1 := Lib.hid (yhas_nil b w)
  have HB0 := Lib.hid (Below.refl w.heap.size w)
  go_enter Try.func13, Try.ntmps13
  go_wp2_with fail
  refine C1.out.mono ?_
  rintro e w' ⟨rfl, rfl⟩
  go_wp2_with fail
  go_ret
  exact ⟨rfl, HB0⟩
theorem ylist_nil (b : Int) (w : World) : Calls Try.prog 18 #[.pointer none, .int .i64 b] w fun e w' => e = .returned (.slice none 0 0) ∧ Hid (Below w.heap.size w w') := by
  have B1 : Hid (Below w.heap.size w (w.alloc (.cells #[.int .i64 b] 3))) := (Below.refl _ _).alloc (Nat.le_refl _) _
  go_enter Try.func18, Try.ntmps18
  go_wp2_with fail
  go_ret
  exact ⟨rfl, B1⟩
end Go.Proofs.Ytmfpelgkjgpfmaa
