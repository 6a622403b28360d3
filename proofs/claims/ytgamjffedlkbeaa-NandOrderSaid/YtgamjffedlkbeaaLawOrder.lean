/- NandOrder: true, whatever its arguments are. Conditions: the tries' cells. -/
import Derived.Test.YtgamjffedlkbeaaNandAwake
import Derived.Test.YtgamjffedlkbeaaFill
set_option linter.unusedVariables false
set_option linter.unusedSimpArgs false
namespace Go.Proofs.Ytgamjffedlkbeaa
open Go.RowKit

/-- What NandOrder's chip is in its k-th life, nx pages done. -/
structure OrdS (np k nx bad good : Nat) (s : Chip) : Prop where
  on : s.on = true
  nb : s.nb = 2
  np_ : s.np = np
  ns : s.ns = 128
  ms : s.ms = []
  len : s.bs.length = 2
  m1 : (s.blk 1).marked = false
  f1 : (s.blk 1).failed = false
  n1 : (s.blk 1).next = nx
  k1 : (s.blk 1).wear = k
  l1 : (s.blk 1).pg.length = np
  p1 : ∀ p, p < nx → (s.blk 1).pg.getD p [] = fillL (100 * (k : Int) + (p : Int)) 156
  w0 : (s.blk 0).wear = 0
  le : nx ≤ np
  bad_ : s.misuse = bad
  good_ : s.programs = good
section
variable {np k nx bad good : Nat} {s : Chip} {p : Int}
theorem ord_fresh (h1 : 1 ≤ np) : OrdS np 0 0 0 0 (Chip.fresh 2 np 128 [] []) :=
  ⟨rfl, rfl, rfl, rfl, rfl, rfl, rfl, rfl, rfl, rfl, List.length_replicate .., fun p hp => absurd hp (Nat.not_lt_zero p), rfl, Nat.zero_le _, rfl, rfl⟩
theorem OrdS.why (h : OrdS np k nx bad good s) (p0 : 0 ≤ p) (p1 : p < (np : Int)) {l : Nat} (hl : l = 156) : s.why 1 p l = 0 :=
  Chip.why_ok h.on (by decide) (by rw [h.nb]; decide) p0 (by rw [h.np_]; exact p1) (by rw [hl]; unfold Chip.long; rw [h.ns])
theorem OrdS.blk1 (h : OrdS np k nx bad good s) (x : Blk) : (s.tick.setB 1 x).blk 1 = x := Chip.blk_setB (s := s.tick) (by decide) (by show 1 < s.bs.length; rw [h.len]; decide) x
theorem OrdS.blk0 (x : Blk) : (s.tick.setB 1 x).blk 0 = s.blk 0 := Chip.blk_other (s := s.tick) (by decide) x
theorem getD_set_same {α : Type} {l : List α} {i : Nat} {x d : α} (h : i < l.length) : (l.set i x).getD i d = x := by simp [List.getD_eq_getElem?_getD, h]
theorem ord_set_other {α : Type} {l : List α} {i j : Nat} {x d : α} (h : j ≠ i) : (l.set i x).getD j d = l.getD j d := by simp [List.getD_eq_getElem?_getD, List.getElem?_set, Ne.symm h]
theorem OrdS.hit (h : OrdS np k nx bad good s) (hn : nx < np) : ∃ s', s.program 1 (nx : Int) (fillL (100 * (k : Int) + (nx : Int)) 156) = (s', 0) ∧ OrdS np k (nx + 1) bad (good + 1) s' ∧ s'.ops = s.ops + 1 := by
  have hb := h.blk1 (Chip.wrote (s.blk 1) (nx : Int) (fillL (100 * (k : Int) + (nx : Int)) 156))
  have h0 := OrdS.blk0 (s := s) (Chip.wrote (s.blk 1) (nx : Int) (fillL (100 * (k : Int) + (nx : Int)) 156))
  refine ⟨_, Chip.program_ok (h.why (by omega) (by omega) (fillL_len _ _)) h.m1 (by rw [h.n1]) h.f1 (Chip.dark_none h.ms) (Chip.fails_none h.ms), ⟨h.on, h.nb, h.np_, h.ns, h.ms, ?_, ?_, ?_, ?_, ?_, ?_, ?_, ?_, hn, h.bad_, ?_⟩, rfl⟩
  · show (List.set _ _ _).length = 2; rw [List.length_set]; exact h.len
  · show ((s.tick.setB 1 _).blk 1).marked = false; rw [hb]; exact h.m1
  · show ((s.tick.setB 1 _).blk 1).failed = false; rw [hb]; exact h.f1
  · show ((s.tick.setB 1 _).blk 1).next = nx + 1; rw [hb]; show (s.blk 1).next + 1 = nx + 1; rw [h.n1]
  · show ((s.tick.setB 1 _).blk 1).wear = k; rw [hb]; exact h.k1
  · show ((s.tick.setB 1 _).blk 1).pg.length = np; rw [hb]; show (List.set _ _ _).length = np; rw [List.length_set]; exact h.l1
  · intro p hp
    show ((s.tick.setB 1 _).blk 1).pg.getD p [] = _; rw [hb]
    show ((s.blk 1).pg.set (nx : Int).toNat _).getD p [] = _
    by_cases e : p = nx
    · subst e; rw [show ((p : Int)).toNat = p by omega, getD_set_same (by rw [h.l1]; exact hn)]
    · rw [ord_set_other (by omega)]; exact h.p1 p (by omega)
  · show ((s.tick.setB 1 _).blk 0).wear = 0; rw [h0]; exact h.w0
  · show s.programs + 1 = good + 1; rw [h.good_]
theorem OrdS.miss (h : OrdS np k nx bad good s) (p0 : 0 ≤ p) (p1 : p < (np : Int)) (hp : p ≠ (nx : Int)) {raw : List Nat} (hl : raw.length = 156) : ∃ s', s.program 1 p raw = (s', 6) ∧ OrdS np k nx (bad + 1) good s' ∧ s'.ops = s.ops + 1 := by
  refine ⟨_, Chip.program_bad (h.why p0 p1 hl) (Or.inr (by rw [h.n1]; exact hp)) (Chip.dark_none h.ms), ⟨h.on, h.nb, h.np_, h.ns, h.ms, h.len, h.m1, h.f1, h.n1, h.k1, h.l1, h.p1, h.w0, h.le, ?_, h.good_⟩, rfl⟩
  show s.misuse + 1 = bad + 1; rw [h.bad_]
theorem OrdS.read (h : OrdS np k nx bad good s) {p : Nat} (hp : p < nx) : ∃ s', s.read 1 (p : Int) = (s', 0, fillL (100 * (k : Int) + (p : Int)) 156) ∧ OrdS np k nx bad good s' ∧ s'.ops = s.ops + 1 := by
  have hle := h.le
  have e : s.page 1 (p : Int) = fillL (100 * (k : Int) + (p : Int)) 156 := h.p1 p hp
  refine ⟨s.tick, ?_, ⟨h.on, h.nb, h.np_, h.ns, h.ms, h.len, h.m1, h.f1, h.n1, h.k1, h.l1, h.p1, h.w0, h.le, h.bad_, h.good_⟩, rfl⟩
  rw [Chip.read_ok (h.why (by omega) (by omega) (by unfold Chip.long; rw [h.ns])) (Chip.dark_none h.ms), e]
theorem OrdS.erase (h : OrdS np k nx bad good s) (h1 : 1 ≤ np) : ∃ s', s.erase 1 = (s', 0) ∧ OrdS np (k + 1) 0 bad good s' ∧ s'.ops = s.ops + 1 := by
  have hb := h.blk1 { s.blk 1 with pg := s.filled 255, next := 0, wear := (s.blk 1).wear + 1 }
  have h0 := OrdS.blk0 (s := s) { s.blk 1 with pg := s.filled 255, next := 0, wear := (s.blk 1).wear + 1 }
  refine ⟨_, Chip.erase_ok (h.why (by omega) (by omega) (by unfold Chip.long; rw [h.ns])) h.m1 h.f1 (Chip.dark_none h.ms) (Chip.fails_none h.ms), ⟨h.on, h.nb, h.np_, h.ns, h.ms, ?_, ?_, ?_, ?_, ?_, ?_, ?_, ?_, Nat.zero_le _, h.bad_, h.good_⟩, rfl⟩
  · show (List.set _ _ _).length = 2; rw [List.length_set]; exact h.len
  · rw [hb]; exact h.m1
  · rw [hb]; exact h.f1
  · rw [hb]
  · rw [hb]; show (s.blk 1).wear + 1 = k + 1; rw [h.k1]
  · rw [hb]; show (s.filled 255).length = np; unfold Chip.filled; rw [List.length_replicate]; exact h.np_
  · intro p hp; exact absurd hp (Nat.not_lt_zero p)
  · rw [h0]; exact h.w0
theorem OrdS.next1 (h : OrdS np k nx bad good s) : s.next 1 = nx := by unfold Chip.next Chip.has; rw [h.nb, h.n1]; rfl
theorem OrdS.wear1 (h : OrdS np k nx bad good s) : s.wear 1 = k := by unfold Chip.wear Chip.has; rw [h.nb, h.k1]; rfl
theorem OrdS.wear0 (h : OrdS np k nx bad good s) : s.wear 0 = 0 := by unfold Chip.wear Chip.has; rw [h.nb, h.w0]; rfl
end
theorem ord_may {np : Nat} (h1 : 1 ≤ np) (h2 : np ≤ 8) : Chip.mayNew 2 np 128 [] [] = true := by
  unfold Chip.mayNew
  rw [show mayM [] = true from rfl, decide_eq_true (show (1 : Int) ≤ 2 ∧ (2 : Int) ≤ 32 ∧ (1 : Int) ≤ (np : Int) ∧ (np : Int) ≤ 8 ∧ (128 : Int) ≤ 128 ∧ (128 : Int) ≤ 256 by omega)]; rfl
set_option maxHeartbeats 32000000 in
set_option maxRecDepth 20000 in
theorem order_law (x0 x2 : Int) (A : Option Addr) (n c : Nat) (xs : List Int) (w : World) (hn : n ≤ 9223372036854775807) (hA : intK.Lie w w.heap.size A n xs) :
    Calls Try.prog 6 #[.int .i64 x0, .slice A n c, .int .i64 x2] w (SaysB w true) := by
  by_cases h30 : 30 < n
  · clear hA
    go_enter Try.func6, Try.ntmps6
    go_wp2_with fail
    refine (awake_any _).mono ?_
    rintro e W1 ⟨rfl, hb⟩
    go_wp2_with fail
    go_ret
    exact ⟨rfl, hb⟩
  have hn30 : n ≤ 30 := by omega
  have HA := Lib.hid hA
  clear hA h30
  obtain ⟨z, HZ⟩ : ∃ z, Hid (lowM x0 8 = z) := ⟨_, rfl⟩
  obtain ⟨y, HY⟩ : ∃ y, Hid (lowM x2 4 = y) := ⟨_, rfl⟩
  obtain ⟨hz0, hz1⟩ := lowM_bd x0 8 (by omega)
  obtain ⟨hy0, hy1⟩ := lowM_bd x2 4 (by omega)
  rw [HZ.out] at hz0 hz1
  rw [HY.out] at hy0 hy1
  obtain ⟨np, HNP⟩ : ∃ np : Nat, 1 + z = (np : Int) := ⟨(1 + z).toNat, by omega⟩
  obtain ⟨nl, HNL⟩ : ∃ nl : Nat, 1 + y = (nl : Int) := ⟨(1 + y).toNat, by omega⟩
  have np1 : 1 ≤ np := by omega
  have np8 : np ≤ 8 := by omega
  have nl1 : 1 ≤ nl := by omega
  have nl4 : nl ≤ 4 := by omega
  go_enter Try.func6, Try.ntmps6
  go_wp2_with fail
  refine (low_any x0 8 (by omega) (by omega) _).mono ?_
  rw [HZ.out]
  rintro e w' ⟨rfl, rfl⟩
  go_wp2_with fail
  refine (low_any x2 4 (by omega) (by omega) _).mono ?_
  rw [HY.out]
  rintro e w' ⟨rfl, rfl⟩
  go_wp2_with fail
  refine (new_yes 2 np 128 none 0 0 [] none 0 0 [] _ (ord_may np1 np8) Kind.Lie.none_ Kind.Lie.none_ (by decide) (by decide)).mono ?_
  rintro e W0 ⟨g, fp0, rfl, hc0, hb0⟩
  have HO0 := Lib.hid (ord_fresh np1)
  have HP0 : Hid ((Chip.fresh 2 np 128 [] []).ops ≤ 50 * 0) := Nat.le_refl 0
  obtain ⟨s0, HS0⟩ : ∃ s0, Hid (Chip.fresh 2 np 128 [] [] = s0) := ⟨_, rfl⟩
  rw [HS0.out] at hc0 HO0 HP0
  clear HZ HY hz0 hz1 hy0 hy1
  go_wp2_with fail
  go_loopw [8, 9, 10] (fun t8 t9 t10 wr => ∃ (k bad good : Nat) (fp : Nat → Prop) (s : Chip), t8 = .int .i64 bad ∧ t9 = .int .i64 good ∧ t10 = .int .i64 k ∧ k ≤ nl ∧ bad ≤ 30 * k ∧ good ≤ 38 * k ∧ Hid (OrdS np k 0 bad good s) ∧ Hid (s.ops ≤ 50 * k) ∧ Hid (ChipAt wr w.heap.size fp g s) ∧ Hid (Below w.heap.size w wr)) (fun _ _ t10 _ => nl - (intOf t10).toNat)
  case atStart => exact ⟨0, 0, 0, fp0, s0, rfl, rfl, rfl, Nat.zero_le _, Nat.le_refl _, Nat.le_refl _, HO0, HP0, hc0, hb0⟩
  clear hc0 hb0 HO0 HP0 HS0
  case round =>
    obtain ⟨k, bad, good, fp, s, rfl, rfl, rfl, hk, hbad, hgood, HO, HP, HC, HB⟩ := hrel
    have k0 : (0 : Int) ≤ (k : Int) := by omega
    by_cases hlt : k < nl
    · skip
      have k1 : (k : Int) < (nl : Int) := by omega
      have k4 : (k : Int) < 4 := by omega
      go_wp2_with fail
      go_loopw [8, 9, 11] (fun t8 t9 t11 wr => ∃ (i nx bad good : Nat) (fp : Nat → Prop) (s : Chip), t8 = .int .i64 bad ∧ t9 = .int .i64 good ∧ t11 = .int .i64 i ∧ i ≤ n ∧ bad ≤ 30 * k + i ∧ good ≤ 38 * k + nx ∧ nx ≤ np ∧ Hid (OrdS np k nx bad good s) ∧ Hid (s.ops ≤ 50 * k + i) ∧ Hid (ChipAt wr w.heap.size fp g s) ∧ Hid (Below w.heap.size w wr)) (fun _ _ t11 _ => n - (intOf t11).toNat)
      case atStart => exact ⟨0, 0, bad, good, fp, s, rfl, rfl, rfl, Nat.zero_le _, hbad, hgood, Nat.zero_le _, HO, HP, HC, HB⟩
      clear hbad hgood HO HP HC HB
      case round =>
        obtain ⟨Wa, rfl⟩ : ∃ Wa, Wa = wr := ⟨_, rfl⟩
        obtain ⟨i, nx, bad, good, fp, s, rfl, rfl, rfl, hi, hbad, hgood, hnx, HO, HP, HC, HB⟩ := hrel
        by_cases hlti : i < n
        · skip
          obtain ⟨ad, e1, hblk, e3⟩ := (HA.out.since HB.out).each i hlti
          subst e1
          have c0 := intAt_of (show intK.At Wa (ad.add (i * 1)) (xs.getD i 0) from e3)
          obtain ⟨gp, HGP⟩ : ∃ gp, Hid (xs.getD i 0 = gp) := ⟨_, rfl⟩
          rw [HGP.out, Nat.mul_one] at c0
          have i0 : (0 : Int) ≤ (i : Int) := by omega
          have i1 : (i : Int) < (n : Int) := by omega
          obtain ⟨pI, HPI⟩ : ∃ pI, Hid (lowM gp (np : Int) = pI) := ⟨_, rfl⟩
          have hpb := lowM_bd gp (np : Int) (by omega)
          rw [HPI.out] at hpb
          obtain ⟨hp0, hp1⟩ := hpb
          obtain ⟨p, rfl⟩ : ∃ p : Nat, pI = (p : Int) := ⟨pI.toNat, by omega⟩
          have hp8 : (p : Int) < 8 := by omega
          have p0 : (0 : Int) ≤ (p : Int) := by omega
          have HNX := Lib.hid HO.out.next1
          have OP : s.ops < 1000000 := by have := HP.out; omega
          go_wp2_with fail
          refine (low_any gp (np : Int) (by omega) (by omega) _).mono ?_
          rw [HPI.out]
          rintro e w' ⟨rfl, rfl⟩
          clear c0
          go_wp2_with fail
          refine (next_any 1 HC.out).mono ?_
          rw [HNX.out]
          rintro e W11 ⟨rfl, hb11⟩
          have S11 := Lib.hid (below_chain HB.out hb11.out)
          have C11 := Lib.hid (HC.out.since hb11.out)
          clear hb11 HB HC
          go_wp2_with fail
          refine (fill_any (100 * (k : Int) + (p : Int)) 156 _ (by omega)).mono ?_
          rintro e W12 ⟨A12, n12, c12, rfl, ho12, hb12⟩
          obtain rfl : 156 = n12 := by rw [← ho12.len, fillL_len]
          have F12 := Lib.hid (Rest.new ho12 C11.out.lt)
          have S12 := Lib.hid (below_chain S11.out hb12)
          have C12 := Lib.hid (C11.out.since hb12)
          clear hb12 ho12 S11 C11
          by_cases hpn : p = nx
          · subst hpn
            obtain ⟨s', h1, h2, h3⟩ := HO.out.hit (by omega)
            have H1 := Lib.hid h1
            have HO2 := Lib.hid h2
            have HP2 : Hid (s'.ops ≤ 50 * k + (i + 1)) := by have := HP.out; show _ ≤ _; omega
            clear h1 h2 h3 HNX HPI
            go_wp2_with fail
            refine (program_any 1 (p : Int) _ _ _ _ C12.out F12.out.own.bytes F12.out.own.cap F12.out.safe OP).mono ?_
            rw [H1.out]
            rintro e W13 ⟨v13, fp13, rfl, he13, hc13, hs13⟩
            have S13 := Lib.hid (hs13.below S12.out C12.out.ge S12.out.size)
            have F13 := Lib.hid (F12.out.step hs13)
            have C13 := Lib.hid hc13
            obtain rfl := he13.nil
            clear he13
            clear hc13 hs13 S12 F12 C12
            have HM := Lib.hid HO2.out.bad_
            have HG := Lib.hid HO2.out.good_
            go_wp2_with fail
            refine (misuse_any C13.out).mono ?_
            rw [HM.out]
            rintro e W14 ⟨rfl, hb14⟩
            have S14 := Lib.hid (below_chain S13.out hb14.out)
            have C14 := Lib.hid (C13.out.since hb14.out)
            clear hb14 S13 C13
            go_wp2_with fail
            refine (programs_any C14.out).mono ?_
            rw [HG.out]
            rintro e W15 ⟨rfl, hb15⟩
            have S15 := Lib.hid (below_chain S14.out hb15.out)
            have C15 := Lib.hid (C14.out.since hb15.out)
            clear hb15 S14 C14
            go_wp2_with fail
            go_roundw
            case rel => exact ⟨i + 1, p + 1, bad, good + 1, fp13, s', by go_num, by go_num, by go_num, by omega, by omega, by omega, by omega, HO2, HP2, C15, S15⟩
            case measure => simp [intOf]; omega
          · obtain ⟨s', h1, h2, h3⟩ := HO.out.miss (p := (p : Int)) (by omega) (by omega) (by omega) (fillL_len (100 * (k : Int) + (p : Int)) 156)
            have hne : ((p : Int) == (nx : Int)) = false := by simp; omega
            have hne2 : decide ((p : Int) = (nx : Int)) = false := decide_eq_false (by omega)
            have H1 := Lib.hid h1
            have HO2 := Lib.hid h2
            have HP2 : Hid (s'.ops ≤ 50 * k + (i + 1)) := by have := HP.out; show _ ≤ _; omega
            clear h1 h2 h3 HNX HPI
            clear hpn
            go_wp2_with fail
            refine (program_any 1 (p : Int) _ _ _ _ C12.out F12.out.own.bytes F12.out.own.cap F12.out.safe OP).mono ?_
            rw [H1.out]
            rintro e W13 ⟨v13, fp13, rfl, he13, hc13, hs13⟩
            have S13 := Lib.hid (hs13.below S12.out C12.out.ge S12.out.size)
            have F13 := Lib.hid (F12.out.step hs13)
            have C13 := Lib.hid hc13
            have E13 := Lib.hid he13.at_
            clear he13
            clear hc13 hs13 S12 F12 C12
            have HM := Lib.hid HO2.out.bad_
            have HG := Lib.hid HO2.out.good_
            obtain ⟨xE, rfl⟩ := (E13.out.wrong (show (6 : Int) ≠ 0 by decide)).ne
            go_wp2_with fail
            refine (err_num E13.out).mono ?_
            rintro e W14 ⟨rfl, hw14⟩
            subst hw14
            clear E13
            go_wp2_with fail
            refine (misuse_any C13.out).mono ?_
            rw [HM.out]
            rintro e W15 ⟨rfl, hb15⟩
            have S15 := Lib.hid (below_chain S13.out hb15.out)
            have C15 := Lib.hid (C13.out.since hb15.out)
            clear hb15 S13 C13
            go_wp2_with fail
            refine (programs_any C15.out).mono ?_
            rw [HG.out]
            rintro e W16 ⟨rfl, hb16⟩
            have S16 := Lib.hid (below_chain S15.out hb16.out)
            have C16 := Lib.hid (C15.out.since hb16.out)
            clear hb16 S15 C15
            go_wp2_with fail
            go_roundw
            case rel => exact ⟨i + 1, nx, bad + 1, good, fp13, s', by go_num, by go_num, by go_num, by omega, by omega, by omega, by omega, HO2, HP2, C16, S16⟩
            case measure => simp [intOf]; omega
        · skip
          obtain rfl : i = n := by omega
          have HP3 : Hid (s.ops ≤ 50 * k + 30 + nx) := by have := HP.out; show _ ≤ _; omega
          clear HP
          have hbad2 : bad ≤ 30 * (k + 1) := by omega
          clear hbad
          go_wp2_with fail
          go_loopw [9] (fun t9 wr => ∃ (nx good : Nat) (fp : Nat → Prop) (s : Chip), t9 = .int .i64 good ∧ good ≤ 38 * k + nx ∧ nx ≤ np ∧ Hid (OrdS np k nx bad good s) ∧ Hid (s.ops ≤ 50 * k + 30 + nx) ∧ Hid (ChipAt wr w.heap.size fp g s) ∧ Hid (Below w.heap.size w wr)) (fun t9 _ => 38 * k + np + 1 - (intOf t9).toNat)
          case atStart => exact ⟨nx, good, fp, s, rfl, hgood, hnx, HO, HP3, HC, HB⟩
          clear hgood hnx HO HP3 HC HB
          case round =>
            obtain ⟨Wb, rfl⟩ : ∃ Wb, Wb = wr := ⟨_, rfl⟩
            obtain ⟨nx, good, fp, s, rfl, hgood, hnx, HO, HP, HC, HB⟩ := hrel
            have HNX := Lib.hid HO.out.next1
            have OP : s.ops < 1000000 := by have := HP.out; omega
            have nx0 : (0 : Int) ≤ (nx : Int) := by omega
            have nx8 : (nx : Int) ≤ 8 := by omega
            by_cases hltx : nx < np
            · skip
              obtain ⟨s', h1, h2, h3⟩ := HO.out.hit hltx
              have H1 := Lib.hid h1
              have HO2 := Lib.hid h2
              have HP2 : Hid (s'.ops ≤ 50 * k + 30 + (nx + 1)) := by have := HP.out; show _ ≤ _; omega
              clear h1 h2 h3
              have x1 : (nx : Int) < (np : Int) := by omega
              go_wp2_with fail
              refine (next_any 1 HC.out).mono ?_
              rw [HNX.out]
              rintro e W13 ⟨rfl, hb13⟩
              have S13 := Lib.hid (below_chain HB.out hb13.out)
              have C13 := Lib.hid (HC.out.since hb13.out)
              clear hb13 HB HC
              go_wp2_with fail
              refine (next_any 1 C13.out).mono ?_
              rw [HNX.out]
              rintro e W14 ⟨rfl, hb14⟩
              have S14 := Lib.hid (below_chain S13.out hb14.out)
              have C14 := Lib.hid (C13.out.since hb14.out)
              clear hb14 S13 C13
              go_wp2_with fail
              refine (next_any 1 C14.out).mono ?_
              rw [HNX.out]
              rintro e W15 ⟨rfl, hb15⟩
              have S15 := Lib.hid (below_chain S14.out hb15.out)
              have C15 := Lib.hid (C14.out.since hb15.out)
              clear hb15 S14 C14
              go_wp2_with fail
              refine (fill_any (100 * (k : Int) + (nx : Int)) 156 _ (by omega)).mono ?_
              rintro e W16 ⟨A16, n16, c16, rfl, ho16, hb16⟩
              obtain rfl : 156 = n16 := by rw [← ho16.len, fillL_len]
              have F16 := Lib.hid (Rest.new ho16 C15.out.lt)
              have S16 := Lib.hid (below_chain S15.out hb16)
              have C16 := Lib.hid (C15.out.since hb16)
              clear hb16 ho16 S15 C15
              go_wp2_with fail
              refine (program_any 1 (nx : Int) _ _ _ _ C16.out F16.out.own.bytes F16.out.own.cap F16.out.safe OP).mono ?_
              rw [H1.out]
              rintro e W17 ⟨v17, fp17, rfl, he17, hc17, hs17⟩
              have S17 := Lib.hid (hs17.below S16.out C16.out.ge S16.out.size)
              have F17 := Lib.hid (F16.out.step hs17)
              have C17 := Lib.hid hc17
              obtain rfl := he17.nil
              clear he17
              clear hc17 hs17 S16 F16 C16
              go_wp2_with fail
              go_roundw
              case rel => exact ⟨nx + 1, good + 1, fp17, s', by go_num, by omega, by omega, HO2, HP2, C17, S17⟩
              case measure => simp [intOf]; omega
            · skip
              obtain rfl : nx = np := by omega
              have HP3 : Hid (s.ops ≤ 50 * k + 38 + 0) := by have := HP.out; show _ ≤ _; omega
              go_wp2_with fail
              refine (next_any 1 HC.out).mono ?_
              rw [HNX.out]
              rintro e W18 ⟨rfl, hb18⟩
              have S18 := Lib.hid (below_chain HB.out hb18.out)
              have C18 := Lib.hid (HC.out.since hb18.out)
              clear hb18 HB HC
              clear HP HNX
              go_wp2_with fail
              go_loopw [15] (fun t15 wr => ∃ (p : Nat) (fp : Nat → Prop) (s : Chip), t15 = .int .i64 p ∧ p ≤ nx ∧ Hid (OrdS nx k nx bad good s) ∧ Hid (s.ops ≤ 50 * k + 38 + p) ∧ Hid (ChipAt wr w.heap.size fp g s) ∧ Hid (Below w.heap.size w wr)) (fun t15 _ => nx - (intOf t15).toNat)
              case atStart => exact ⟨0, fp, s, rfl, Nat.zero_le _, HO, HP3, C18, S18⟩
              clear HO HP3 C18 S18
              case round =>
                obtain ⟨Wc, rfl⟩ : ∃ Wc, Wc = wr := ⟨_, rfl⟩
                obtain ⟨p, fp, s, rfl, hp, HO, HP, HC, HB⟩ := hrel
                have OP : s.ops < 1000000 := by have := HP.out; omega
                have p0 : (0 : Int) ≤ (p : Int) := by omega
                have p8 : (p : Int) ≤ 8 := by omega
                by_cases hltp : p < nx
                · skip
                  obtain ⟨s', h1, h2, h3⟩ := HO.out.read hltp
                  have H1 := Lib.hid h1
                  have HO2 := Lib.hid h2
                  have HP2 : Hid (s'.ops ≤ 50 * k + 38 + (p + 1)) := by have := HP.out; show _ ≤ _; omega
                  clear h1 h2 h3
                  have q1 : (p : Int) < (nx : Int) := by omega
                  have HFL : Hid ((fillL (100 * (k : Int) + (p : Int)) 156).length = 156) := fillL_len _ _
                  go_wp2_with fail
                  refine (read_any 1 (p : Int) HC.out OP).mono ?_
                  rw [H1.out]
                  rintro e W19 ⟨v19, A19, n19, c19, fp19, rfl, he19, hr19, hc19, hs19⟩
                  have S19 := Lib.hid (hs19.below HB.out HC.out.ge HB.out.size)
                  have C19 := Lib.hid hc19
                  obtain rfl : 156 = n19 := by rw [← hr19.own.len, HFL.out]
                  have R19 := Lib.hid hr19
                  obtain rfl := he19.nil
                  clear he19
                  clear hr19 hc19 hs19 HB HC
                  go_wp2_with fail
                  refine (fill_any (100 * (k : Int) + (p : Int)) 156 _ (by omega)).mono ?_
                  rintro e W20 ⟨A20, n20, c20, rfl, ho20, hb20⟩
                  obtain rfl : 156 = n20 := by rw [← ho20.len, fillL_len]
                  have F20 := Lib.hid (Rest.new ho20 C19.out.lt)
                  have S20 := Lib.hid (below_chain S19.out hb20)
                  have C20 := Lib.hid (C19.out.since hb20)
                  have R20 := Lib.hid (R19.out.since hb20)
                  clear hb20 ho20 S19 C19 R19
                  go_wp2_with fail
                  refine (same_since _ _ 156 _ _ (fillL (100 * (k : Int) + (p : Int)) 156) _ (by omega) R20.out.own.bytes F20.out.own.bytes).mono ?_
                  rintro e W21 ⟨rfl, hb21⟩
                  have S21 := Lib.hid (below_chain S20.out hb21)
                  have C21 := Lib.hid (C20.out.since hb21)
                  clear hb21 R20 F20 S20 C20
                  go_wp2_with fail
                  go_roundw
                  case rel => exact ⟨p + 1, fp19, s', by go_num, by omega, HO2, HP2, C21, S21⟩
                  case measure => simp [intOf]; omega
                · skip
                  obtain ⟨s', h1, h2, h3⟩ := HO.out.erase (by omega)
                  have H1 := Lib.hid h1
                  have HO2 := Lib.hid h2
                  have HP2 : Hid (s'.ops ≤ 50 * (k + 1)) := by have := HP.out; show _ ≤ _; omega
                  have HW1 := Lib.hid h2.wear1
                  have HN1 := Lib.hid h2.next1
                  clear h1 h2 h3
                  go_wp2_with fail
                  refine (erase_any 1 HC.out OP).mono ?_
                  rw [H1.out]
                  rintro e W22 ⟨v22, fp22, rfl, he22, hc22, hs22⟩
                  have S22 := Lib.hid (hs22.below HB.out HC.out.ge HB.out.size)
                  have C22 := Lib.hid hc22
                  obtain rfl := he22.nil
                  clear he22
                  clear hc22 hs22 HB HC
                  go_wp2_with fail
                  refine (wear_any 1 C22.out).mono ?_
                  rw [HW1.out]
                  rintro e W23 ⟨rfl, hb23⟩
                  have S23 := Lib.hid (below_chain S22.out hb23.out)
                  have C23 := Lib.hid (C22.out.since hb23.out)
                  clear hb23 S22 C22
                  go_wp2_with fail
                  refine (next_any 1 C23.out).mono ?_
                  rw [HN1.out]
                  rintro e W24 ⟨rfl, hb24⟩
                  have S24 := Lib.hid (below_chain S23.out hb24.out)
                  have C24 := Lib.hid (C23.out.since hb24.out)
                  clear hb24 S23 C23
                  go_wp2_with fail
                  go_roundw
                  case rel => exact ⟨k + 1, bad, good, fp22, s', by go_num, by go_num, by go_num, by omega, by omega, by omega, HO2, HP2, C24, S24⟩
                  case measure => simp [intOf]; omega
    · skip
      have HW0 := Lib.hid HO.out.wear0
      have HON := Lib.hid HO.out.on
      obtain rfl : k = nl := by omega
      go_wp2_with fail
      refine (wear_any 0 HC.out).mono ?_
      rw [HW0.out]
      rintro e W25 ⟨rfl, hb25⟩
      have S25 := Lib.hid (below_chain HB.out hb25.out)
      have C25 := Lib.hid (HC.out.since hb25.out)
      clear hb25 HB HC
      go_wp2_with fail
      refine (on_any C25.out).mono ?_
      rw [HON.out]
      rintro e W26 ⟨rfl, hb26⟩
      have S26 := Lib.hid (below_chain S25.out hb26.out)
      have C26 := Lib.hid (C25.out.since hb26.out)
      clear hb26 S25 C25
      go_wp2_with fail
      refine (awake_any _).mono ?_
      rintro e W27 ⟨rfl, hb27⟩
      have S27 := Lib.hid (below_chain S26.out hb27.out)
      go_wp2_with fail
      go_ret
      exact ⟨rfl, S27⟩
end Go.Proofs.Ytgamjffedlkbeaa
