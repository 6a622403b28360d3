/- NandFails: true, whatever its arguments are. No conditions. -/
import Derived.Test.YtgamjffedlkbeaaLawDark
set_option linter.unusedVariables false
set_option linter.unusedSimpArgs false
namespace Go.Proofs.Ytgamjffedlkbeaa
open Go.RowKit

def failsS (y : Int) : Chip := Chip.fresh 2 4 128 [] [⟨2, 1, y, 0⟩]
theorem fails_may (y : Int) (h0 : 0 ≤ y) (h1 : y < 400) : Chip.mayNew 2 4 128 [] [⟨2, 1, y, 0⟩] = true := by
  have e : okM ⟨2, 1, y, 0⟩ = true := decide_eq_true ⟨by show (1 : Int) ≤ 2; decide, by show (2 : Int) ≤ 1073741824; decide, Or.inl rfl, h0, by show y ≤ 65536; omega⟩
  have m : mayM [⟨2, 1, y, 0⟩] = true := mayM_yes (by show 1 ≤ 24; decide) fun k hk => by
    obtain rfl : k = 0 := by have : k < 1 := hk; omega
    show (okM ⟨2, 1, y, 0⟩ && _) = true
    rw [e]; rfl
  unfold Chip.mayNew
  rw [m]; rfl
theorem why4 {s : Chip} {b p : Int} {l : Nat} (h : s.on = true) (h2 : s.nb = 2) (h3 : s.np = 4) (b0 : 0 ≤ b) (b1 : b < 2) (p0 : 0 ≤ p) (p1 : p < 4) (hl : l = s.long) : s.why b p l = 0 :=
  Chip.why_ok h b0 (by rw [h2]; exact b1) p0 (by rw [h3]; exact p1) hl
theorem fails_math0 (y : Int) (h0 : 0 ≤ y) (f : List Nat) (l : f.length = 156) : ∃ s1 s2 s3 s4 s5 s6 s7 s8 s9 s10 s11 : Chip, ∃ q : List Nat, (failsS y).program 0 0 f = (s1, 0) ∧ s1.program 0 1 f = (s2, 5) ∧ s2.program 0 2 f = (s3, 5) ∧ s3.erase 0 = (s4, 5)
    ∧ s4.read 0 0 = (s5, 0, f) ∧ s5.read 0 1 = (s6, 0, q) ∧ q.length = 156 ∧ ((q.getD 155 0 : Nat) : Int) = 255 ∧ s6.next 0 = 3 ∧ s6.wear 0 = 0 ∧ s6.misuse = 0 ∧ s6.program 1 0 f = (s7, 0) ∧ s7.erase 1 = (s8, 0) ∧ s8.mark 0 = (s9, 0) ∧ s9.marked 0 = true
    ∧ s9.erase 0 = (s10, 6) ∧ s10.program 0 3 f = (s11, 6) ∧ s11.misuse = 2 ∧ (s1.ops < 1000000 ∧ s2.ops < 1000000 ∧ s3.ops < 1000000 ∧ s4.ops < 1000000 ∧ s5.ops < 1000000 ∧ s6.ops < 1000000 ∧ s7.ops < 1000000 ∧ s8.ops < 1000000 ∧ s9.ops < 1000000 ∧ s10.ops < 1000000) := by
  have e1 := Chip.program_ok (s := failsS y) (b := 0) (p := 0) (raw := f) (why4 rfl rfl rfl (by decide) (by decide) (by decide) (by decide) l) rfl rfl rfl rfl rfl
  obtain ⟨s1, hs1⟩ : ∃ s1 : Chip, s1 = { (failsS y).tick.setB 0 (Chip.wrote ((failsS y).blk 0) 0 f) with programs := (failsS y).programs + 1 } := ⟨_, rfl⟩
  rw [← hs1] at e1
  have r1on : s1.on = true := by rw [hs1]; rfl
  have r1nb : s1.nb = 2 := by rw [hs1]; rfl
  have r1np : s1.np = 4 := by rw [hs1]; rfl
  have r1ns : s1.ns = 128 := by rw [hs1]; rfl
  have r1ops : s1.ops = 1 := by rw [hs1]; rfl
  have r1ms : s1.ms = [⟨2, 1, y, 0⟩] := by rw [hs1]; rfl
  have r1len : s1.bs.length = 2 := by rw [hs1]; rfl
  have r1b : s1.blk 0 = Chip.wrote ((failsS y).blk 0) 0 f := by rw [hs1]; rfl
  have r1o : s1.blk 1 = (failsS y).blk 1 := by rw [hs1]; rfl
  have e2 := Chip.program_fails (s := s1) (b := 0) (p := 1) (raw := f) (why4 r1on r1nb r1np (by decide) (by decide) (by decide) (by decide) (by rw [l]; unfold Chip.long; rw [r1ns])) (by rw [r1b]; rfl) (by rw [r1b]; rfl) (by rw [r1b]; rfl) (by rw [hs1]; rfl) (by rw [hs1]; rfl)
  obtain ⟨s2, hs2⟩ : ∃ s2 : Chip, s2 = s1.tick.setB 0 { Chip.wrote (s1.blk 0) 1 (Chip.part f (s1.page 0 1) (min s1.bef.bytes.toNat (s1.long - 1))) with failed := true } := ⟨_, rfl⟩
  rw [← hs2] at e2
  have r2on : s2.on = true := by rw [hs2]; exact r1on
  have r2nb : s2.nb = 2 := by rw [hs2]; exact r1nb
  have r2np : s2.np = 4 := by rw [hs2]; exact r1np
  have r2ns : s2.ns = 128 := by rw [hs2]; exact r1ns
  have r2ops : s2.ops = 2 := by rw [hs2]; show s1.ops + 1 = 2; rw [r1ops]
  have r2ms : s2.ms = [⟨2, 1, y, 0⟩] := by rw [hs2]; exact r1ms
  have d2 : s2.dark = false := by unfold Chip.dark Chip.bef; rw [r2ops, r2ms]; rfl
  have x2 : s2.fails = false := by unfold Chip.fails Chip.bef; rw [r2ops, r2ms]; rfl
  have r2len : s2.bs.length = 2 := by rw [hs2]; show (List.set _ _ _).length = 2; rw [List.length_set]; exact r1len
  have r2b : s2.blk 0 = { Chip.wrote (s1.blk 0) 1 (Chip.part f (s1.page 0 1) (min s1.bef.bytes.toNat (s1.long - 1))) with failed := true } := by rw [hs2]; exact Chip.blk_setB (s := s1.tick) (by decide) (by show 0 < s1.bs.length; rw [r1len]; decide) _
  have r2o : s2.blk 1 = s1.blk 1 := by rw [hs2]; exact Chip.blk_other (s := s1.tick) (by decide) _
  have e3 := Chip.program_failed (s := s2) (b := 0) (p := 2) (raw := f) (why4 r2on r2nb r2np (by decide) (by decide) (by decide) (by decide) (by rw [l]; unfold Chip.long; rw [r2ns])) (by rw [r2b, r1b]; rfl) (by rw [r2b, r1b]; rfl) (by rw [r2b]) d2
  obtain ⟨s3, hs3⟩ : ∃ s3 : Chip, s3 = s2.tick.setB 0 { s2.blk 0 with next := (s2.blk 0).next + 1 } := ⟨_, rfl⟩
  rw [← hs3] at e3
  have r3on : s3.on = true := by rw [hs3]; exact r2on
  have r3nb : s3.nb = 2 := by rw [hs3]; exact r2nb
  have r3np : s3.np = 4 := by rw [hs3]; exact r2np
  have r3ns : s3.ns = 128 := by rw [hs3]; exact r2ns
  have r3ops : s3.ops = 3 := by rw [hs3]; show s2.ops + 1 = 3; rw [r2ops]
  have r3ms : s3.ms = [⟨2, 1, y, 0⟩] := by rw [hs3]; exact r2ms
  have d3 : s3.dark = false := by unfold Chip.dark Chip.bef; rw [r3ops, r3ms]; rfl
  have x3 : s3.fails = false := by unfold Chip.fails Chip.bef; rw [r3ops, r3ms]; rfl
  have r3len : s3.bs.length = 2 := by rw [hs3]; show (List.set _ _ _).length = 2; rw [List.length_set]; exact r2len
  have r3b : s3.blk 0 = { s2.blk 0 with next := (s2.blk 0).next + 1 } := by rw [hs3]; exact Chip.blk_setB (s := s2.tick) (by decide) (by show 0 < s2.bs.length; rw [r2len]; decide) _
  have r3o : s3.blk 1 = s2.blk 1 := by rw [hs3]; exact Chip.blk_other (s := s2.tick) (by decide) _
  have e4 := Chip.erase_failed (s := s3) (b := 0) (why4 r3on r3nb r3np (by decide) (by decide) (by decide) (by decide) rfl) (by rw [r3b, r2b, r1b]; rfl) (by rw [r3b, r2b]) d3
  obtain ⟨s4, hs4⟩ : ∃ s4 : Chip, s4 = s3.tick.setB 0 { s3.blk 0 with failed := true } := ⟨_, rfl⟩
  rw [← hs4] at e4
  have r4on : s4.on = true := by rw [hs4]; exact r3on
  have r4nb : s4.nb = 2 := by rw [hs4]; exact r3nb
  have r4np : s4.np = 4 := by rw [hs4]; exact r3np
  have r4ns : s4.ns = 128 := by rw [hs4]; exact r3ns
  have r4ops : s4.ops = 4 := by rw [hs4]; show s3.ops + 1 = 4; rw [r3ops]
  have r4ms : s4.ms = [⟨2, 1, y, 0⟩] := by rw [hs4]; exact r3ms
  have d4 : s4.dark = false := by unfold Chip.dark Chip.bef; rw [r4ops, r4ms]; rfl
  have x4 : s4.fails = false := by unfold Chip.fails Chip.bef; rw [r4ops, r4ms]; rfl
  have r4len : s4.bs.length = 2 := by rw [hs4]; show (List.set _ _ _).length = 2; rw [List.length_set]; exact r3len
  have r4b : s4.blk 0 = { s3.blk 0 with failed := true } := by rw [hs4]; exact Chip.blk_setB (s := s3.tick) (by decide) (by show 0 < s3.bs.length; rw [r3len]; decide) _
  have r4o : s4.blk 1 = s3.blk 1 := by rw [hs4]; exact Chip.blk_other (s := s3.tick) (by decide) _
  have e5 := Chip.read_ok (s := s4) (b := 0) (p := 0) (why4 r4on r4nb r4np (by decide) (by decide) (by decide) (by decide) rfl) d4
  obtain ⟨s5, hs5⟩ : ∃ s5 : Chip, s5 = s4.tick := ⟨_, rfl⟩
  rw [← hs5] at e5
  have r5on : s5.on = true := by rw [hs5]; exact r4on
  have r5nb : s5.nb = 2 := by rw [hs5]; exact r4nb
  have r5np : s5.np = 4 := by rw [hs5]; exact r4np
  have r5ns : s5.ns = 128 := by rw [hs5]; exact r4ns
  have r5ops : s5.ops = 5 := by rw [hs5]; show s4.ops + 1 = 5; rw [r4ops]
  have r5ms : s5.ms = [⟨2, 1, y, 0⟩] := by rw [hs5]; exact r4ms
  have d5 : s5.dark = false := by unfold Chip.dark Chip.bef; rw [r5ops, r5ms]; rfl
  have x5 : s5.fails = false := by unfold Chip.fails Chip.bef; rw [r5ops, r5ms]; rfl
  have r5len : s5.bs.length = 2 := by rw [hs5]; exact r4len
  have r5b : s5.blk 0 = s4.blk 0 := by rw [hs5]; rfl
  have r5o : s5.blk 1 = s4.blk 1 := by rw [hs5]; rfl
  have e6 := Chip.read_ok (s := s5) (b := 0) (p := 1) (why4 r5on r5nb r5np (by decide) (by decide) (by decide) (by decide) rfl) d5
  obtain ⟨s6, hs6⟩ : ∃ s6 : Chip, s6 = s5.tick := ⟨_, rfl⟩
  rw [← hs6] at e6
  have r6on : s6.on = true := by rw [hs6]; exact r5on
  have r6nb : s6.nb = 2 := by rw [hs6]; exact r5nb
  have r6np : s6.np = 4 := by rw [hs6]; exact r5np
  have r6ns : s6.ns = 128 := by rw [hs6]; exact r5ns
  have r6ops : s6.ops = 6 := by rw [hs6]; show s5.ops + 1 = 6; rw [r5ops]
  have r6ms : s6.ms = [⟨2, 1, y, 0⟩] := by rw [hs6]; exact r5ms
  have d6 : s6.dark = false := by unfold Chip.dark Chip.bef; rw [r6ops, r6ms]; rfl
  have x6 : s6.fails = false := by unfold Chip.fails Chip.bef; rw [r6ops, r6ms]; rfl
  have r6len : s6.bs.length = 2 := by rw [hs6]; exact r5len
  have r6b : s6.blk 0 = s5.blk 0 := by rw [hs6]; rfl
  have r6o : s6.blk 1 = s5.blk 1 := by rw [hs6]; rfl
  rw [r5o, r4o, r3o, r2o, r1o] at r6o
  rw [r5b, r4b, r3b, r2b] at r6b
  have e7 := Chip.program_ok (s := s6) (b := 1) (p := 0) (raw := f) (why4 r6on r6nb r6np (by decide) (by decide) (by decide) (by decide) (by rw [l]; unfold Chip.long; rw [r6ns])) (by rw [r6o]; rfl) (by rw [r6o]; rfl) (by rw [r6o]; rfl) d6 x6
  obtain ⟨s7, hs7⟩ : ∃ s7 : Chip, s7 = { s6.tick.setB 1 (Chip.wrote (s6.blk 1) 0 f) with programs := s6.programs + 1 } := ⟨_, rfl⟩
  rw [← hs7] at e7
  have r7on : s7.on = true := by rw [hs7]; exact r6on
  have r7nb : s7.nb = 2 := by rw [hs7]; exact r6nb
  have r7np : s7.np = 4 := by rw [hs7]; exact r6np
  have r7ns : s7.ns = 128 := by rw [hs7]; exact r6ns
  have r7ops : s7.ops = 7 := by rw [hs7]; show s6.ops + 1 = 7; rw [r6ops]
  have r7ms : s7.ms = [⟨2, 1, y, 0⟩] := by rw [hs7]; exact r6ms
  have d7 : s7.dark = false := by unfold Chip.dark Chip.bef; rw [r7ops, r7ms]; rfl
  have x7 : s7.fails = false := by unfold Chip.fails Chip.bef; rw [r7ops, r7ms]; rfl
  have r7len : s7.bs.length = 2 := by rw [hs7]; show (List.set _ _ _).length = 2; rw [List.length_set]; exact r6len
  have r7b : s7.blk 0 = s6.blk 0 := by rw [hs7]; exact Chip.blk_other (s := s6.tick) (by decide) _
  have r7o : s7.blk 1 = Chip.wrote (s6.blk 1) 0 f := by rw [hs7]; exact Chip.blk_setB (s := s6.tick) (by decide) (by show 1 < s6.bs.length; rw [r6len]; decide) _
  have e8 := Chip.erase_ok (s := s7) (b := 1) (why4 r7on r7nb r7np (by decide) (by decide) (by decide) (by decide) rfl) (by rw [r7o, r6o]; rfl) (by rw [r7o, r6o]; rfl) d7 x7
  obtain ⟨s8, hs8⟩ : ∃ s8 : Chip, s8 = s7.tick.setB 1 { s7.blk 1 with pg := s7.filled 255, next := 0, wear := (s7.blk 1).wear + 1 } := ⟨_, rfl⟩
  rw [← hs8] at e8
  have r8on : s8.on = true := by rw [hs8]; exact r7on
  have r8nb : s8.nb = 2 := by rw [hs8]; exact r7nb
  have r8np : s8.np = 4 := by rw [hs8]; exact r7np
  have r8ns : s8.ns = 128 := by rw [hs8]; exact r7ns
  have r8ops : s8.ops = 8 := by rw [hs8]; show s7.ops + 1 = 8; rw [r7ops]
  have r8ms : s8.ms = [⟨2, 1, y, 0⟩] := by rw [hs8]; exact r7ms
  have d8 : s8.dark = false := by unfold Chip.dark Chip.bef; rw [r8ops, r8ms]; rfl
  have x8 : s8.fails = false := by unfold Chip.fails Chip.bef; rw [r8ops, r8ms]; rfl
  have r8len : s8.bs.length = 2 := by rw [hs8]; show (List.set _ _ _).length = 2; rw [List.length_set]; exact r7len
  have r8b : s8.blk 0 = s7.blk 0 := by rw [hs8]; exact Chip.blk_other (s := s7.tick) (by decide) _
  have r8o : s8.blk 1 = { s7.blk 1 with pg := s7.filled 255, next := 0, wear := (s7.blk 1).wear + 1 } := by rw [hs8]; exact Chip.blk_setB (s := s7.tick) (by decide) (by show 1 < s7.bs.length; rw [r7len]; decide) _
  have e9 := Chip.mark_ok (s := s8) (b := 0) (why4 r8on r8nb r8np (by decide) (by decide) (by decide) (by decide) rfl) d8
  obtain ⟨s9, hs9⟩ : ∃ s9 : Chip, s9 = s8.tick.setB 0 { s8.blk 0 with marked := true } := ⟨_, rfl⟩
  rw [← hs9] at e9
  have r9on : s9.on = true := by rw [hs9]; exact r8on
  have r9nb : s9.nb = 2 := by rw [hs9]; exact r8nb
  have r9np : s9.np = 4 := by rw [hs9]; exact r8np
  have r9ns : s9.ns = 128 := by rw [hs9]; exact r8ns
  have r9ops : s9.ops = 9 := by rw [hs9]; show s8.ops + 1 = 9; rw [r8ops]
  have r9ms : s9.ms = [⟨2, 1, y, 0⟩] := by rw [hs9]; exact r8ms
  have d9 : s9.dark = false := by unfold Chip.dark Chip.bef; rw [r9ops, r9ms]; rfl
  have x9 : s9.fails = false := by unfold Chip.fails Chip.bef; rw [r9ops, r9ms]; rfl
  have r9len : s9.bs.length = 2 := by rw [hs9]; show (List.set _ _ _).length = 2; rw [List.length_set]; exact r8len
  have r9b : s9.blk 0 = { s8.blk 0 with marked := true } := by rw [hs9]; exact Chip.blk_setB (s := s8.tick) (by decide) (by show 0 < s8.bs.length; rw [r8len]; decide) _
  have r9o : s9.blk 1 = s8.blk 1 := by rw [hs9]; exact Chip.blk_other (s := s8.tick) (by decide) _
  have e10 := Chip.erase_marked (s := s9) (b := 0) (why4 r9on r9nb r9np (by decide) (by decide) (by decide) (by decide) rfl) (by rw [r9b]) d9
  obtain ⟨s10, hs10⟩ : ∃ s10 : Chip, s10 = { s9.tick with misuse := s9.misuse + 1 } := ⟨_, rfl⟩
  rw [← hs10] at e10
  have r10on : s10.on = true := by rw [hs10]; exact r9on
  have r10nb : s10.nb = 2 := by rw [hs10]; exact r9nb
  have r10np : s10.np = 4 := by rw [hs10]; exact r9np
  have r10ns : s10.ns = 128 := by rw [hs10]; exact r9ns
  have r10ops : s10.ops = 10 := by rw [hs10]; show s9.ops + 1 = 10; rw [r9ops]
  have r10ms : s10.ms = [⟨2, 1, y, 0⟩] := by rw [hs10]; exact r9ms
  have d10 : s10.dark = false := by unfold Chip.dark Chip.bef; rw [r10ops, r10ms]; rfl
  have x10 : s10.fails = false := by unfold Chip.fails Chip.bef; rw [r10ops, r10ms]; rfl
  have r10len : s10.bs.length = 2 := by rw [hs10]; exact r9len
  have r10b : s10.blk 0 = s9.blk 0 := by rw [hs10]; rfl
  have r10o : s10.blk 1 = s9.blk 1 := by rw [hs10]; rfl
  have e11 := Chip.program_bad (s := s10) (b := 0) (p := 3) (raw := f) (why4 r10on r10nb r10np (by decide) (by decide) (by decide) (by decide) (by rw [l]; unfold Chip.long; rw [r10ns])) (Or.inl (by rw [r10b, r9b])) d10
  obtain ⟨s11, hs11⟩ : ∃ s11 : Chip, s11 = { s10.tick with misuse := s10.misuse + 1 } := ⟨_, rfl⟩
  rw [← hs11] at e11
  have r11on : s11.on = true := by rw [hs11]; exact r10on
  have r11nb : s11.nb = 2 := by rw [hs11]; exact r10nb
  have r11np : s11.np = 4 := by rw [hs11]; exact r10np
  have r11ns : s11.ns = 128 := by rw [hs11]; exact r10ns
  have r11ops : s11.ops = 11 := by rw [hs11]; show s10.ops + 1 = 11; rw [r10ops]
  have r11ms : s11.ms = [⟨2, 1, y, 0⟩] := by rw [hs11]; exact r10ms
  have d11 : s11.dark = false := by unfold Chip.dark Chip.bef; rw [r11ops, r11ms]; rfl
  have x11 : s11.fails = false := by unfold Chip.fails Chip.bef; rw [r11ops, r11ms]; rfl
  have r11len : s11.bs.length = 2 := by rw [hs11]; exact r10len
  have r11b : s11.blk 0 = s10.blk 0 := by rw [hs11]; rfl
  have r11o : s11.blk 1 = s10.blk 1 := by rw [hs11]; rfl
  have hp0 : s4.page 0 0 = f := by unfold Chip.page; rw [r4b, r3b, r2b, r1b]; rfl
  have hp1 : s5.page 0 1 = Chip.part f (List.replicate 156 255) (min y.toNat 155) := by unfold Chip.page; rw [r5b, r4b, r3b, r2b, r1b]; show Chip.part f (s1.page 0 1) (min s1.bef.bytes.toNat (s1.long - 1)) = _; unfold Chip.page Chip.long Chip.bef; rw [r1b, r1ns, r1ops, r1ms]; rfl
  rw [hp0] at e5
  rw [hp1] at e6
  have hl : f.length = (List.replicate 156 255).length := by rw [l, List.length_replicate]
  have m1 : s1.misuse = 0 := by rw [hs1]; rfl
  have m2 : s2.misuse = 0 := by rw [hs2]; exact m1
  have m3 : s3.misuse = 0 := by rw [hs3]; exact m2
  have m4 : s4.misuse = 0 := by rw [hs4]; exact m3
  have m5 : s5.misuse = 0 := by rw [hs5]; exact m4
  have m6 : s6.misuse = 0 := by rw [hs6]; exact m5
  have m7 : s7.misuse = 0 := by rw [hs7]; exact m6
  have m8 : s8.misuse = 0 := by rw [hs8]; exact m7
  have m9 : s9.misuse = 0 := by rw [hs9]; exact m8
  have m10 : s10.misuse = 1 := by rw [hs10]; show s9.misuse + 1 = 1; rw [m9]
  have m11 : s11.misuse = 2 := by rw [hs11]; show s10.misuse + 1 = 2; rw [m10]
  refine ⟨s1, s2, s3, s4, s5, s6, s7, s8, s9, s10, s11, _, e1, e2, e3, e4, e5, e6, by rw [part_len hl, List.length_replicate], ?_, ?_, ?_, m6, e7, e8, e9, ?_, e10, e11, m11, ?_⟩
  · rw [part_at hl (by rw [List.length_replicate]; decide), if_neg (by omega), rep_at (by decide)]; rfl
  · unfold Chip.next Chip.has; rw [r6nb, r6b, r1b]; rfl
  · unfold Chip.wear Chip.has; rw [r6nb, r6b, r1b]; rfl
  · unfold Chip.marked Chip.has; rw [r9nb, r9b]; rfl
  · rw [r1ops, r2ops, r3ops, r4ops, r5ops, r6ops, r7ops, r8ops, r9ops, r10ops]; decide
theorem fails_math1 (y : Int) (h0 : 0 ≤ y) (f : List Nat) (l : f.length = 156) : ∃ s1 s2 s3 s4 s5 s6 s7 s8 s9 s10 s11 : Chip, ∃ q : List Nat, (failsS y).program 1 0 f = (s1, 0) ∧ s1.program 1 1 f = (s2, 5) ∧ s2.program 1 2 f = (s3, 5) ∧ s3.erase 1 = (s4, 5)
    ∧ s4.read 1 0 = (s5, 0, f) ∧ s5.read 1 1 = (s6, 0, q) ∧ q.length = 156 ∧ ((q.getD 155 0 : Nat) : Int) = 255 ∧ s6.next 1 = 3 ∧ s6.wear 1 = 0 ∧ s6.misuse = 0 ∧ s6.program 0 0 f = (s7, 0) ∧ s7.erase 0 = (s8, 0) ∧ s8.mark 1 = (s9, 0) ∧ s9.marked 1 = true
    ∧ s9.erase 1 = (s10, 6) ∧ s10.program 1 3 f = (s11, 6) ∧ s11.misuse = 2 ∧ (s1.ops < 1000000 ∧ s2.ops < 1000000 ∧ s3.ops < 1000000 ∧ s4.ops < 1000000 ∧ s5.ops < 1000000 ∧ s6.ops < 1000000 ∧ s7.ops < 1000000 ∧ s8.ops < 1000000 ∧ s9.ops < 1000000 ∧ s10.ops < 1000000) := by
  have e1 := Chip.program_ok (s := failsS y) (b := 1) (p := 0) (raw := f) (why4 rfl rfl rfl (by decide) (by decide) (by decide) (by decide) l) rfl rfl rfl rfl rfl
  obtain ⟨s1, hs1⟩ : ∃ s1 : Chip, s1 = { (failsS y).tick.setB 1 (Chip.wrote ((failsS y).blk 1) 0 f) with programs := (failsS y).programs + 1 } := ⟨_, rfl⟩
  rw [← hs1] at e1
  have r1on : s1.on = true := by rw [hs1]; rfl
  have r1nb : s1.nb = 2 := by rw [hs1]; rfl
  have r1np : s1.np = 4 := by rw [hs1]; rfl
  have r1ns : s1.ns = 128 := by rw [hs1]; rfl
  have r1ops : s1.ops = 1 := by rw [hs1]; rfl
  have r1ms : s1.ms = [⟨2, 1, y, 0⟩] := by rw [hs1]; rfl
  have r1len : s1.bs.length = 2 := by rw [hs1]; rfl
  have r1b : s1.blk 1 = Chip.wrote ((failsS y).blk 1) 0 f := by rw [hs1]; rfl
  have r1o : s1.blk 0 = (failsS y).blk 0 := by rw [hs1]; rfl
  have e2 := Chip.program_fails (s := s1) (b := 1) (p := 1) (raw := f) (why4 r1on r1nb r1np (by decide) (by decide) (by decide) (by decide) (by rw [l]; unfold Chip.long; rw [r1ns])) (by rw [r1b]; rfl) (by rw [r1b]; rfl) (by rw [r1b]; rfl) (by rw [hs1]; rfl) (by rw [hs1]; rfl)
  obtain ⟨s2, hs2⟩ : ∃ s2 : Chip, s2 = s1.tick.setB 1 { Chip.wrote (s1.blk 1) 1 (Chip.part f (s1.page 1 1) (min s1.bef.bytes.toNat (s1.long - 1))) with failed := true } := ⟨_, rfl⟩
  rw [← hs2] at e2
  have r2on : s2.on = true := by rw [hs2]; exact r1on
  have r2nb : s2.nb = 2 := by rw [hs2]; exact r1nb
  have r2np : s2.np = 4 := by rw [hs2]; exact r1np
  have r2ns : s2.ns = 128 := by rw [hs2]; exact r1ns
  have r2ops : s2.ops = 2 := by rw [hs2]; show s1.ops + 1 = 2; rw [r1ops]
  have r2ms : s2.ms = [⟨2, 1, y, 0⟩] := by rw [hs2]; exact r1ms
  have d2 : s2.dark = false := by unfold Chip.dark Chip.bef; rw [r2ops, r2ms]; rfl
  have x2 : s2.fails = false := by unfold Chip.fails Chip.bef; rw [r2ops, r2ms]; rfl
  have r2len : s2.bs.length = 2 := by rw [hs2]; show (List.set _ _ _).length = 2; rw [List.length_set]; exact r1len
  have r2b : s2.blk 1 = { Chip.wrote (s1.blk 1) 1 (Chip.part f (s1.page 1 1) (min s1.bef.bytes.toNat (s1.long - 1))) with failed := true } := by rw [hs2]; exact Chip.blk_setB (s := s1.tick) (by decide) (by show 1 < s1.bs.length; rw [r1len]; decide) _
  have r2o : s2.blk 0 = s1.blk 0 := by rw [hs2]; exact Chip.blk_other (s := s1.tick) (by decide) _
  have e3 := Chip.program_failed (s := s2) (b := 1) (p := 2) (raw := f) (why4 r2on r2nb r2np (by decide) (by decide) (by decide) (by decide) (by rw [l]; unfold Chip.long; rw [r2ns])) (by rw [r2b, r1b]; rfl) (by rw [r2b, r1b]; rfl) (by rw [r2b]) d2
  obtain ⟨s3, hs3⟩ : ∃ s3 : Chip, s3 = s2.tick.setB 1 { s2.blk 1 with next := (s2.blk 1).next + 1 } := ⟨_, rfl⟩
  rw [← hs3] at e3
  have r3on : s3.on = true := by rw [hs3]; exact r2on
  have r3nb : s3.nb = 2 := by rw [hs3]; exact r2nb
  have r3np : s3.np = 4 := by rw [hs3]; exact r2np
  have r3ns : s3.ns = 128 := by rw [hs3]; exact r2ns
  have r3ops : s3.ops = 3 := by rw [hs3]; show s2.ops + 1 = 3; rw [r2ops]
  have r3ms : s3.ms = [⟨2, 1, y, 0⟩] := by rw [hs3]; exact r2ms
  have d3 : s3.dark = false := by unfold Chip.dark Chip.bef; rw [r3ops, r3ms]; rfl
  have x3 : s3.fails = false := by unfold Chip.fails Chip.bef; rw [r3ops, r3ms]; rfl
  have r3len : s3.bs.length = 2 := by rw [hs3]; show (List.set _ _ _).length = 2; rw [List.length_set]; exact r2len
  have r3b : s3.blk 1 = { s2.blk 1 with next := (s2.blk 1).next + 1 } := by rw [hs3]; exact Chip.blk_setB (s := s2.tick) (by decide) (by show 1 < s2.bs.length; rw [r2len]; decide) _
  have r3o : s3.blk 0 = s2.blk 0 := by rw [hs3]; exact Chip.blk_other (s := s2.tick) (by decide) _
  have e4 := Chip.erase_failed (s := s3) (b := 1) (why4 r3on r3nb r3np (by decide) (by decide) (by decide) (by decide) rfl) (by rw [r3b, r2b, r1b]; rfl) (by rw [r3b, r2b]) d3
  obtain ⟨s4, hs4⟩ : ∃ s4 : Chip, s4 = s3.tick.setB 1 { s3.blk 1 with failed := true } := ⟨_, rfl⟩
  rw [← hs4] at e4
  have r4on : s4.on = true := by rw [hs4]; exact r3on
  have r4nb : s4.nb = 2 := by rw [hs4]; exact r3nb
  have r4np : s4.np = 4 := by rw [hs4]; exact r3np
  have r4ns : s4.ns = 128 := by rw [hs4]; exact r3ns
  have r4ops : s4.ops = 4 := by rw [hs4]; show s3.ops + 1 = 4; rw [r3ops]
  have r4ms : s4.ms = [⟨2, 1, y, 0⟩] := by rw [hs4]; exact r3ms
  have d4 : s4.dark = false := by unfold Chip.dark Chip.bef; rw [r4ops, r4ms]; rfl
  have x4 : s4.fails = false := by unfold Chip.fails Chip.bef; rw [r4ops, r4ms]; rfl
  have r4len : s4.bs.length = 2 := by rw [hs4]; show (List.set _ _ _).length = 2; rw [List.length_set]; exact r3len
  have r4b : s4.blk 1 = { s3.blk 1 with failed := true } := by rw [hs4]; exact Chip.blk_setB (s := s3.tick) (by decide) (by show 1 < s3.bs.length; rw [r3len]; decide) _
  have r4o : s4.blk 0 = s3.blk 0 := by rw [hs4]; exact Chip.blk_other (s := s3.tick) (by decide) _
  have e5 := Chip.read_ok (s := s4) (b := 1) (p := 0) (why4 r4on r4nb r4np (by decide) (by decide) (by decide) (by decide) rfl) d4
  obtain ⟨s5, hs5⟩ : ∃ s5 : Chip, s5 = s4.tick := ⟨_, rfl⟩
  rw [← hs5] at e5
  have r5on : s5.on = true := by rw [hs5]; exact r4on
  have r5nb : s5.nb = 2 := by rw [hs5]; exact r4nb
  have r5np : s5.np = 4 := by rw [hs5]; exact r4np
  have r5ns : s5.ns = 128 := by rw [hs5]; exact r4ns
  have r5ops : s5.ops = 5 := by rw [hs5]; show s4.ops + 1 = 5; rw [r4ops]
  have r5ms : s5.ms = [⟨2, 1, y, 0⟩] := by rw [hs5]; exact r4ms
  have d5 : s5.dark = false := by unfold Chip.dark Chip.bef; rw [r5ops, r5ms]; rfl
  have x5 : s5.fails = false := by unfold Chip.fails Chip.bef; rw [r5ops, r5ms]; rfl
  have r5len : s5.bs.length = 2 := by rw [hs5]; exact r4len
  have r5b : s5.blk 1 = s4.blk 1 := by rw [hs5]; rfl
  have r5o : s5.blk 0 = s4.blk 0 := by rw [hs5]; rfl
  have e6 := Chip.read_ok (s := s5) (b := 1) (p := 1) (why4 r5on r5nb r5np (by decide) (by decide) (by decide) (by decide) rfl) d5
  obtain ⟨s6, hs6⟩ : ∃ s6 : Chip, s6 = s5.tick := ⟨_, rfl⟩
  rw [← hs6] at e6
  have r6on : s6.on = true := by rw [hs6]; exact r5on
  have r6nb : s6.nb = 2 := by rw [hs6]; exact r5nb
  have r6np : s6.np = 4 := by rw [hs6]; exact r5np
  have r6ns : s6.ns = 128 := by rw [hs6]; exact r5ns
  have r6ops : s6.ops = 6 := by rw [hs6]; show s5.ops + 1 = 6; rw [r5ops]
  have r6ms : s6.ms = [⟨2, 1, y, 0⟩] := by rw [hs6]; exact r5ms
  have d6 : s6.dark = false := by unfold Chip.dark Chip.bef; rw [r6ops, r6ms]; rfl
  have x6 : s6.fails = false := by unfold Chip.fails Chip.bef; rw [r6ops, r6ms]; rfl
  have r6len : s6.bs.length = 2 := by rw [hs6]; exact r5len
  have r6b : s6.blk 1 = s5.blk 1 := by rw [hs6]; rfl
  have r6o : s6.blk 0 = s5.blk 0 := by rw [hs6]; rfl
  rw [r5o, r4o, r3o, r2o, r1o] at r6o
  rw [r5b, r4b, r3b, r2b] at r6b
  have e7 := Chip.program_ok (s := s6) (b := 0) (p := 0) (raw := f) (why4 r6on r6nb r6np (by decide) (by decide) (by decide) (by decide) (by rw [l]; unfold Chip.long; rw [r6ns])) (by rw [r6o]; rfl) (by rw [r6o]; rfl) (by rw [r6o]; rfl) d6 x6
  obtain ⟨s7, hs7⟩ : ∃ s7 : Chip, s7 = { s6.tick.setB 0 (Chip.wrote (s6.blk 0) 0 f) with programs := s6.programs + 1 } := ⟨_, rfl⟩
  rw [← hs7] at e7
  have r7on : s7.on = true := by rw [hs7]; exact r6on
  have r7nb : s7.nb = 2 := by rw [hs7]; exact r6nb
  have r7np : s7.np = 4 := by rw [hs7]; exact r6np
  have r7ns : s7.ns = 128 := by rw [hs7]; exact r6ns
  have r7ops : s7.ops = 7 := by rw [hs7]; show s6.ops + 1 = 7; rw [r6ops]
  have r7ms : s7.ms = [⟨2, 1, y, 0⟩] := by rw [hs7]; exact r6ms
  have d7 : s7.dark = false := by unfold Chip.dark Chip.bef; rw [r7ops, r7ms]; rfl
  have x7 : s7.fails = false := by unfold Chip.fails Chip.bef; rw [r7ops, r7ms]; rfl
  have r7len : s7.bs.length = 2 := by rw [hs7]; show (List.set _ _ _).length = 2; rw [List.length_set]; exact r6len
  have r7b : s7.blk 1 = s6.blk 1 := by rw [hs7]; exact Chip.blk_other (s := s6.tick) (by decide) _
  have r7o : s7.blk 0 = Chip.wrote (s6.blk 0) 0 f := by rw [hs7]; exact Chip.blk_setB (s := s6.tick) (by decide) (by show 0 < s6.bs.length; rw [r6len]; decide) _
  have e8 := Chip.erase_ok (s := s7) (b := 0) (why4 r7on r7nb r7np (by decide) (by decide) (by decide) (by decide) rfl) (by rw [r7o, r6o]; rfl) (by rw [r7o, r6o]; rfl) d7 x7
  obtain ⟨s8, hs8⟩ : ∃ s8 : Chip, s8 = s7.tick.setB 0 { s7.blk 0 with pg := s7.filled 255, next := 0, wear := (s7.blk 0).wear + 1 } := ⟨_, rfl⟩
  rw [← hs8] at e8
  have r8on : s8.on = true := by rw [hs8]; exact r7on
  have r8nb : s8.nb = 2 := by rw [hs8]; exact r7nb
  have r8np : s8.np = 4 := by rw [hs8]; exact r7np
  have r8ns : s8.ns = 128 := by rw [hs8]; exact r7ns
  have r8ops : s8.ops = 8 := by rw [hs8]; show s7.ops + 1 = 8; rw [r7ops]
  have r8ms : s8.ms = [⟨2, 1, y, 0⟩] := by rw [hs8]; exact r7ms
  have d8 : s8.dark = false := by unfold Chip.dark Chip.bef; rw [r8ops, r8ms]; rfl
  have x8 : s8.fails = false := by unfold Chip.fails Chip.bef; rw [r8ops, r8ms]; rfl
  have r8len : s8.bs.length = 2 := by rw [hs8]; show (List.set _ _ _).length = 2; rw [List.length_set]; exact r7len
  have r8b : s8.blk 1 = s7.blk 1 := by rw [hs8]; exact Chip.blk_other (s := s7.tick) (by decide) _
  have r8o : s8.blk 0 = { s7.blk 0 with pg := s7.filled 255, next := 0, wear := (s7.blk 0).wear + 1 } := by rw [hs8]; exact Chip.blk_setB (s := s7.tick) (by decide) (by show 0 < s7.bs.length; rw [r7len]; decide) _
  have e9 := Chip.mark_ok (s := s8) (b := 1) (why4 r8on r8nb r8np (by decide) (by decide) (by decide) (by decide) rfl) d8
  obtain ⟨s9, hs9⟩ : ∃ s9 : Chip, s9 = s8.tick.setB 1 { s8.blk 1 with marked := true } := ⟨_, rfl⟩
  rw [← hs9] at e9
  have r9on : s9.on = true := by rw [hs9]; exact r8on
  have r9nb : s9.nb = 2 := by rw [hs9]; exact r8nb
  have r9np : s9.np = 4 := by rw [hs9]; exact r8np
  have r9ns : s9.ns = 128 := by rw [hs9]; exact r8ns
  have r9ops : s9.ops = 9 := by rw [hs9]; show s8.ops + 1 = 9; rw [r8ops]
  have r9ms : s9.ms = [⟨2, 1, y, 0⟩] := by rw [hs9]; exact r8ms
  have d9 : s9.dark = false := by unfold Chip.dark Chip.bef; rw [r9ops, r9ms]; rfl
  have x9 : s9.fails = false := by unfold Chip.fails Chip.bef; rw [r9ops, r9ms]; rfl
  have r9len : s9.bs.length = 2 := by rw [hs9]; show (List.set _ _ _).length = 2; rw [List.length_set]; exact r8len
  have r9b : s9.blk 1 = { s8.blk 1 with marked := true } := by rw [hs9]; exact Chip.blk_setB (s := s8.tick) (by decide) (by show 1 < s8.bs.length; rw [r8len]; decide) _
  have r9o : s9.blk 0 = s8.blk 0 := by rw [hs9]; exact Chip.blk_other (s := s8.tick) (by decide) _
  have e10 := Chip.erase_marked (s := s9) (b := 1) (why4 r9on r9nb r9np (by decide) (by decide) (by decide) (by decide) rfl) (by rw [r9b]) d9
  obtain ⟨s10, hs10⟩ : ∃ s10 : Chip, s10 = { s9.tick with misuse := s9.misuse + 1 } := ⟨_, rfl⟩
  rw [← hs10] at e10
  have r10on : s10.on = true := by rw [hs10]; exact r9on
  have r10nb : s10.nb = 2 := by rw [hs10]; exact r9nb
  have r10np : s10.np = 4 := by rw [hs10]; exact r9np
  have r10ns : s10.ns = 128 := by rw [hs10]; exact r9ns
  have r10ops : s10.ops = 10 := by rw [hs10]; show s9.ops + 1 = 10; rw [r9ops]
  have r10ms : s10.ms = [⟨2, 1, y, 0⟩] := by rw [hs10]; exact r9ms
  have d10 : s10.dark = false := by unfold Chip.dark Chip.bef; rw [r10ops, r10ms]; rfl
  have x10 : s10.fails = false := by unfold Chip.fails Chip.bef; rw [r10ops, r10ms]; rfl
  have r10len : s10.bs.length = 2 := by rw [hs10]; exact r9len
  have r10b : s10.blk 1 = s9.blk 1 := by rw [hs10]; rfl
  have r10o : s10.blk 0 = s9.blk 0 := by rw [hs10]; rfl
  have e11 := Chip.program_bad (s := s10) (b := 1) (p := 3) (raw := f) (why4 r10on r10nb r10np (by decide) (by decide) (by decide) (by decide) (by rw [l]; unfold Chip.long; rw [r10ns])) (Or.inl (by rw [r10b, r9b])) d10
  obtain ⟨s11, hs11⟩ : ∃ s11 : Chip, s11 = { s10.tick with misuse := s10.misuse + 1 } := ⟨_, rfl⟩
  rw [← hs11] at e11
  have r11on : s11.on = true := by rw [hs11]; exact r10on
  have r11nb : s11.nb = 2 := by rw [hs11]; exact r10nb
  have r11np : s11.np = 4 := by rw [hs11]; exact r10np
  have r11ns : s11.ns = 128 := by rw [hs11]; exact r10ns
  have r11ops : s11.ops = 11 := by rw [hs11]; show s10.ops + 1 = 11; rw [r10ops]
  have r11ms : s11.ms = [⟨2, 1, y, 0⟩] := by rw [hs11]; exact r10ms
  have d11 : s11.dark = false := by unfold Chip.dark Chip.bef; rw [r11ops, r11ms]; rfl
  have x11 : s11.fails = false := by unfold Chip.fails Chip.bef; rw [r11ops, r11ms]; rfl
  have r11len : s11.bs.length = 2 := by rw [hs11]; exact r10len
  have r11b : s11.blk 1 = s10.blk 1 := by rw [hs11]; rfl
  have r11o : s11.blk 0 = s10.blk 0 := by rw [hs11]; rfl
  have hp0 : s4.page 1 0 = f := by unfold Chip.page; rw [r4b, r3b, r2b, r1b]; rfl
  have hp1 : s5.page 1 1 = Chip.part f (List.replicate 156 255) (min y.toNat 155) := by unfold Chip.page; rw [r5b, r4b, r3b, r2b, r1b]; show Chip.part f (s1.page 1 1) (min s1.bef.bytes.toNat (s1.long - 1)) = _; unfold Chip.page Chip.long Chip.bef; rw [r1b, r1ns, r1ops, r1ms]; rfl
  rw [hp0] at e5
  rw [hp1] at e6
  have hl : f.length = (List.replicate 156 255).length := by rw [l, List.length_replicate]
  have m1 : s1.misuse = 0 := by rw [hs1]; rfl
  have m2 : s2.misuse = 0 := by rw [hs2]; exact m1
  have m3 : s3.misuse = 0 := by rw [hs3]; exact m2
  have m4 : s4.misuse = 0 := by rw [hs4]; exact m3
  have m5 : s5.misuse = 0 := by rw [hs5]; exact m4
  have m6 : s6.misuse = 0 := by rw [hs6]; exact m5
  have m7 : s7.misuse = 0 := by rw [hs7]; exact m6
  have m8 : s8.misuse = 0 := by rw [hs8]; exact m7
  have m9 : s9.misuse = 0 := by rw [hs9]; exact m8
  have m10 : s10.misuse = 1 := by rw [hs10]; show s9.misuse + 1 = 1; rw [m9]
  have m11 : s11.misuse = 2 := by rw [hs11]; show s10.misuse + 1 = 2; rw [m10]
  refine ⟨s1, s2, s3, s4, s5, s6, s7, s8, s9, s10, s11, _, e1, e2, e3, e4, e5, e6, by rw [part_len hl, List.length_replicate], ?_, ?_, ?_, m6, e7, e8, e9, ?_, e10, e11, m11, ?_⟩
  · rw [part_at hl (by rw [List.length_replicate]; decide), if_neg (by omega), rep_at (by decide)]; rfl
  · unfold Chip.next Chip.has; rw [r6nb, r6b, r1b]; rfl
  · unfold Chip.wear Chip.has; rw [r6nb, r6b, r1b]; rfl
  · unfold Chip.marked Chip.has; rw [r9nb, r9b]; rfl
  · rw [r1ops, r2ops, r3ops, r4ops, r5ops, r6ops, r7ops, r8ops, r9ops, r10ops]; decide
set_option maxHeartbeats 8000000 in
set_option maxRecDepth 20000 in
theorem fails_0 (x0 x by_ : Int) (y : Int) (f q : List Nat) (s0 s1 s2 s3 s4 s5 s6 s7 s8 s9 s10 s11 : Chip) (w : World) (hy0 : 0 ≤ y) (hy1 : y < 400) (HX : Hid (lowM x0 2 = 0)) (HY : Hid (lowM by_ 400 = y)) (HS0 : Hid (failsS y = s0)) (O0 : s0.ops < 1000000) (HF : Hid (fillL x 156 = f)) (HFL : Hid (f.length = 156))
    (H1 : Hid (s0.program 0 0 f = (s1, 0))) (O1 : s1.ops < 1000000) (H2 : Hid (s1.program 0 1 f = (s2, 5))) (O2 : s2.ops < 1000000) (H3 : Hid (s2.program 0 2 f = (s3, 5))) (O3 : s3.ops < 1000000) (H4 : Hid (s3.erase 0 = (s4, 5))) (O4 : s4.ops < 1000000)
    (H5 : Hid (s4.read 0 0 = (s5, 0, f))) (O5 : s5.ops < 1000000) (H6 : Hid (s5.read 0 1 = (s6, 0, q))) (O6 : s6.ops < 1000000) (HQL : Hid (q.length = 156)) (HQ : Hid (((q.getD 155 0 : Nat) : Int) = 255)) (H7 : Hid (s6.next 0 = 3)) (H8 : Hid (s6.wear 0 = 0)) (H9 : Hid (s6.misuse = 0))
    (H10 : Hid (s6.program 1 0 f = (s7, 0))) (O7 : s7.ops < 1000000) (H11 : Hid (s7.erase 1 = (s8, 0))) (O8 : s8.ops < 1000000) (H12 : Hid (s8.mark 0 = (s9, 0))) (O9 : s9.ops < 1000000) (H13 : Hid (s9.marked 0 = true)) (H14 : Hid (s9.erase 0 = (s10, 6))) (O10 : s10.ops < 1000000) (H15 : Hid (s10.program 0 3 f = (s11, 6))) (H16 : Hid (s11.misuse = 2)) :
    Calls Try.prog 5 #[.int .i64 x0, .int .i64 x, .int .i64 by_] w (SaysB w true) := by
  go_enter Try.func5, Try.ntmps5
  go_wp2_with fail
  refine (low_any x0 2 (by omega) (by omega) _).mono ?_
  rw [HX.out]
  rintro e W0 ⟨rfl, hw0⟩
  subst hw0
  go_wp2_with fail
  refine (low_any by_ 400 (by omega) (by omega) _).mono ?_
  rw [HY.out]
  rintro e W0 ⟨rfl, hw0⟩
  subst hw0
  go_wp2_with fail
  have S0 := Lib.hid (since_alloc (Below.refl w.heap.size w) (.cells #[.int .i64 2, .int .i64 1, .int .i64 y, .int .u8 0] 45))
  have M0 : Hid (mishK.Lie (w.alloc (.cells #[.int .i64 2, .int .i64 1, .int .i64 y, .int .u8 0] 45)) (w.alloc (.cells #[.int .i64 2, .int .i64 1, .int .i64 y, .int .u8 0] 45)).heap.size (some ⟨w.heap.size, 0, none⟩) 1 [⟨2, 1, y, 0⟩]) := Kind.new1 (K := mishK) w ⟨2, 1, y, 0⟩ ⟨by show _ ≤ (2 : Int); decide, by show (2 : Int) ≤ _; decide, by show _ ≤ (1 : Int); decide, by show (1 : Int) ≤ _; decide, by show _ ≤ y; omega, by show y ≤ _; omega, by show (0 : Int) ≤ 0; decide, by show (0 : Int) ≤ 255; decide⟩ _ rfl
  refine (new_yes 2 4 128 none 0 0 [] (some ⟨w.heap.size, 0, none⟩) 1 1 [⟨2, 1, y, 0⟩] _ (fails_may y hy0 hy1) Kind.Lie.none_ M0.out (by decide) (by decide)).mono ?_
  rw [show Chip.fresh 2 4 128 [] [⟨2, 1, y, 0⟩] = s0 from HS0.out]
  rintro e W0 ⟨g, fp0, rfl, hc0, hb0⟩
  have C0 := Lib.hid (hc0.elder S0.out.size)
  have S1 := Lib.hid (below_chain S0.out hb0)
  clear S0 M0 hc0 hb0
  go_wp2_with fail
  refine (fill_any x 156 _ (by omega)).mono ?_
  rintro e W2 ⟨A2, n2, c2, rfl, ho2, hb2⟩
  obtain rfl : 156 = n2 := by rw [← ho2.len, fillL_len]
  have F2 := Lib.hid (Rest.new ho2 C0.out.lt)
  have S2 := Lib.hid (below_chain S1.out hb2)
  have C2 := Lib.hid (C0.out.since hb2)
  clear hb2 ho2 S1 C0
  rw [HF.out] at F2
  go_wp2_with fail
  refine (program_any 0 0 _ _ _ _ C2.out F2.out.own.bytes F2.out.own.cap F2.out.safe O0).mono ?_
  rw [H1.out]
  rintro e W3 ⟨v3, fp3, rfl, he3, hc3, hs3⟩
  have S3 := Lib.hid (hs3.below S2.out C2.out.ge S2.out.size)
  have F3 := Lib.hid (F2.out.step hs3)
  have C3 := Lib.hid hc3
  obtain rfl := he3.nil
  clear he3
  clear hc3 hs3 S2 F2 C2
  go_wp2_with fail
  refine (fill_any x 156 _ (by omega)).mono ?_
  rintro e W4 ⟨A4, n4, c4, rfl, ho4, hb4⟩
  obtain rfl : 156 = n4 := by rw [← ho4.len, fillL_len]
  have F4 := Lib.hid (Rest.new ho4 C3.out.lt)
  have S4 := Lib.hid (below_chain S3.out hb4)
  have C4 := Lib.hid (C3.out.since hb4)
  clear hb4 ho4 S3 C3
  rw [HF.out] at F4
  go_wp2_with fail
  refine (program_any 0 1 _ _ _ _ C4.out F4.out.own.bytes F4.out.own.cap F4.out.safe O1).mono ?_
  rw [H2.out]
  rintro e W5 ⟨v5, fp5, rfl, he5, hc5, hs5⟩
  have S5 := Lib.hid (hs5.below S4.out C4.out.ge S4.out.size)
  have F5 := Lib.hid (F4.out.step hs5)
  have C5 := Lib.hid hc5
  have E5 := Lib.hid he5.at_
  clear he5
  clear hc5 hs5 S4 F4 C4
  go_wp2_with fail
  refine (err_num E5.out).mono ?_
  rintro e W6 ⟨rfl, hw6⟩
  subst hw6
  clear E5
  go_wp2_with fail
  refine (fill_any x 156 _ (by omega)).mono ?_
  rintro e W7 ⟨A7, n7, c7, rfl, ho7, hb7⟩
  obtain rfl : 156 = n7 := by rw [← ho7.len, fillL_len]
  have F7 := Lib.hid (Rest.new ho7 C5.out.lt)
  have S7 := Lib.hid (below_chain S5.out hb7)
  have C7 := Lib.hid (C5.out.since hb7)
  clear hb7 ho7 S5 C5
  rw [HF.out] at F7
  go_wp2_with fail
  refine (program_any 0 2 _ _ _ _ C7.out F7.out.own.bytes F7.out.own.cap F7.out.safe O2).mono ?_
  rw [H3.out]
  rintro e W8 ⟨v8, fp8, rfl, he8, hc8, hs8⟩
  have S8 := Lib.hid (hs8.below S7.out C7.out.ge S7.out.size)
  have F8 := Lib.hid (F7.out.step hs8)
  have C8 := Lib.hid hc8
  have E8 := Lib.hid he8.at_
  clear he8
  clear hc8 hs8 S7 F7 C7
  go_wp2_with fail
  refine (err_num E8.out).mono ?_
  rintro e W9 ⟨rfl, hw9⟩
  subst hw9
  clear E8
  go_wp2_with fail
  refine (erase_any 0 C8.out O3).mono ?_
  rw [H4.out]
  rintro e W10 ⟨v10, fp10, rfl, he10, hc10, hs10⟩
  have S10 := Lib.hid (hs10.below S8.out C8.out.ge S8.out.size)
  have C10 := Lib.hid hc10
  have E10 := Lib.hid he10.at_
  clear he10
  clear hc10 hs10 S8 C8
  go_wp2_with fail
  refine (err_num E10.out).mono ?_
  rintro e W11 ⟨rfl, hw11⟩
  subst hw11
  clear E10
  go_wp2_with fail
  refine (read_any 0 0 C10.out O4).mono ?_
  rw [H5.out]
  rintro e W12 ⟨v12, A12, n12, c12, fp12, rfl, he12, hr12, hc12, hs12⟩
  have S12 := Lib.hid (hs12.below S10.out C10.out.ge S10.out.size)
  have C12 := Lib.hid hc12
  obtain rfl : 156 = n12 := by rw [← hr12.own.len, HFL.out]
  have X12 := Lib.hid hr12
  obtain rfl := he12.nil
  clear he12
  clear hr12 hc12 hs12 S10 C10
  go_wp2_with fail
  refine (read_any 0 1 C12.out O5).mono ?_
  rw [H6.out]
  rintro e W13 ⟨v13, A13, n13, c13, fp13, rfl, he13, hr13, hc13, hs13⟩
  have S13 := Lib.hid (hs13.below S12.out C12.out.ge S12.out.size)
  have X13 := Lib.hid (X12.out.step hs13)
  have C13 := Lib.hid hc13
  obtain rfl : 156 = n13 := by rw [← hr13.own.len, HQL.out]
  have Y13 := Lib.hid hr13
  obtain rfl := he13.nil
  clear he13
  clear hr13 hc13 hs13 S12 X12 C12
  go_wp2_with fail
  refine (fill_any x 156 _ (by omega)).mono ?_
  rintro e W14 ⟨A14, n14, c14, rfl, ho14, hb14⟩
  obtain rfl : 156 = n14 := by rw [← ho14.len, fillL_len]
  have F14 := Lib.hid (Rest.new ho14 C13.out.lt)
  have S14 := Lib.hid (below_chain S13.out hb14)
  have C14 := Lib.hid (C13.out.since hb14)
  have X14 := Lib.hid (X13.out.since hb14)
  have Y14 := Lib.hid (Y13.out.since hb14)
  clear hb14 ho14 S13 C13 X13 Y13
  rw [HF.out] at F14
  go_wp2_with fail
  refine (same_since _ _ 156 _ _ f _ (by omega) X14.out.own.bytes F14.out.own.bytes).mono ?_
  rintro e W15 ⟨rfl, hb15⟩
  have S15 := Lib.hid (below_chain S14.out hb15)
  have C15 := Lib.hid (C14.out.since hb15)
  have X15 := Lib.hid (X14.out.since hb15)
  have Y15 := Lib.hid (Y14.out.since hb15)
  clear hb15 F14 S14 C14 X14 Y14
  obtain ⟨ad, hAd, hblk, hcell⟩ := Y15.out.own.bytes.at_ (k := 155) (by omega)
  rw [HQ.out, add_at ad 154] at hcell
  subst hAd
  go_wp2_with fail
  refine (next_any 0 C15.out).mono ?_
  rw [H7.out]
  rintro e W16 ⟨rfl, hb16⟩
  have S16 := Lib.hid (below_chain S15.out hb16.out)
  have C16 := Lib.hid (C15.out.since hb16.out)
  have X16 := Lib.hid (X15.out.since hb16.out)
  clear hb16 S15 C15 X15
  go_wp2_with fail
  refine (wear_any 0 C16.out).mono ?_
  rw [H8.out]
  rintro e W17 ⟨rfl, hb17⟩
  have S17 := Lib.hid (below_chain S16.out hb17.out)
  have C17 := Lib.hid (C16.out.since hb17.out)
  have X17 := Lib.hid (X16.out.since hb17.out)
  clear hb17 S16 C16 X16
  go_wp2_with fail
  refine (misuse_any C17.out).mono ?_
  rw [H9.out]
  rintro e W18 ⟨rfl, hb18⟩
  have S18 := Lib.hid (below_chain S17.out hb18.out)
  have C18 := Lib.hid (C17.out.since hb18.out)
  have X18 := Lib.hid (X17.out.since hb18.out)
  clear hb18 S17 C17 X17
  go_wp2_with fail
  refine (fill_any x 156 _ (by omega)).mono ?_
  rintro e W19 ⟨A19, n19, c19, rfl, ho19, hb19⟩
  obtain rfl : 156 = n19 := by rw [← ho19.len, fillL_len]
  have F19 := Lib.hid (Rest.new ho19 C18.out.lt)
  have S19 := Lib.hid (below_chain S18.out hb19)
  have C19 := Lib.hid (C18.out.since hb19)
  have X19 := Lib.hid (X18.out.since hb19)
  clear hb19 ho19 S18 C18 X18
  rw [HF.out] at F19
  go_wp2_with fail
  refine (program_any 1 0 _ _ _ _ C19.out F19.out.own.bytes F19.out.own.cap F19.out.safe O6).mono ?_
  rw [H10.out]
  rintro e W20 ⟨v20, fp20, rfl, he20, hc20, hs20⟩
  have S20 := Lib.hid (hs20.below S19.out C19.out.ge S19.out.size)
  have X20 := Lib.hid (X19.out.step hs20)
  have F20 := Lib.hid (F19.out.step hs20)
  have C20 := Lib.hid hc20
  obtain rfl := he20.nil
  clear he20
  clear hc20 hs20 S19 X19 F19 C19
  go_wp2_with fail
  refine (erase_any 1 C20.out O7).mono ?_
  rw [H11.out]
  rintro e W21 ⟨v21, fp21, rfl, he21, hc21, hs21⟩
  have S21 := Lib.hid (hs21.below S20.out C20.out.ge S20.out.size)
  have X21 := Lib.hid (X20.out.step hs21)
  have C21 := Lib.hid hc21
  obtain rfl := he21.nil
  clear he21
  clear hc21 hs21 S20 X20 C20
  go_wp2_with fail
  refine (mark_any 0 C21.out O8).mono ?_
  rw [H12.out]
  rintro e W22 ⟨v22, fp22, rfl, he22, hc22, hs22⟩
  have S22 := Lib.hid (hs22.below S21.out C21.out.ge S21.out.size)
  have X22 := Lib.hid (X21.out.step hs22)
  have C22 := Lib.hid hc22
  obtain rfl := he22.nil
  clear he22
  clear hc22 hs22 S21 X21 C21
  go_wp2_with fail
  refine (marked_any 0 C22.out).mono ?_
  rw [H13.out]
  rintro e W23 ⟨rfl, hb23⟩
  have S23 := Lib.hid (below_chain S22.out hb23.out)
  have C23 := Lib.hid (C22.out.since hb23.out)
  have X23 := Lib.hid (X22.out.since hb23.out)
  clear hb23 S22 C22 X22
  go_wp2_with fail
  refine (erase_any 0 C23.out O9).mono ?_
  rw [H14.out]
  rintro e W24 ⟨v24, fp24, rfl, he24, hc24, hs24⟩
  have S24 := Lib.hid (hs24.below S23.out C23.out.ge S23.out.size)
  have X24 := Lib.hid (X23.out.step hs24)
  have C24 := Lib.hid hc24
  have E24 := Lib.hid he24.at_
  clear he24
  clear hc24 hs24 S23 X23 C23
  go_wp2_with fail
  refine (err_num E24.out).mono ?_
  rintro e W25 ⟨rfl, hw25⟩
  subst hw25
  clear E24
  go_wp2_with fail
  refine (program_any 0 3 _ _ _ _ C24.out X24.out.own.bytes X24.out.own.cap X24.out.safe O10).mono ?_
  rw [H15.out]
  rintro e W26 ⟨v26, fp26, rfl, he26, hc26, hs26⟩
  have S26 := Lib.hid (hs26.below S24.out C24.out.ge S24.out.size)
  have X26 := Lib.hid (X24.out.step hs26)
  have C26 := Lib.hid hc26
  have E26 := Lib.hid he26.at_
  clear he26
  clear hc26 hs26 S24 X24 C24
  go_wp2_with fail
  refine (err_num E26.out).mono ?_
  rintro e W27 ⟨rfl, hw27⟩
  subst hw27
  clear E26
  go_wp2_with fail
  refine (misuse_any C26.out).mono ?_
  rw [H16.out]
  rintro e W28 ⟨rfl, hb28⟩
  have S28 := Lib.hid (below_chain S26.out hb28.out)
  have C28 := Lib.hid (C26.out.since hb28.out)
  clear hb28 S26 C26
  go_wp2_with fail
  refine (awake_any _).mono ?_
  rintro e W29 ⟨rfl, hb29⟩
  have S29 := Lib.hid (below_chain S28.out hb29.out)
  go_wp2_with fail
  go_ret
  exact ⟨rfl, S29⟩
set_option maxHeartbeats 8000000 in
set_option maxRecDepth 20000 in
theorem fails_1 (x0 x by_ : Int) (y : Int) (f q : List Nat) (s0 s1 s2 s3 s4 s5 s6 s7 s8 s9 s10 s11 : Chip) (w : World) (hy0 : 0 ≤ y) (hy1 : y < 400) (HX : Hid (lowM x0 2 = 1)) (HY : Hid (lowM by_ 400 = y)) (HS0 : Hid (failsS y = s0)) (O0 : s0.ops < 1000000) (HF : Hid (fillL x 156 = f)) (HFL : Hid (f.length = 156))
    (H1 : Hid (s0.program 1 0 f = (s1, 0))) (O1 : s1.ops < 1000000) (H2 : Hid (s1.program 1 1 f = (s2, 5))) (O2 : s2.ops < 1000000) (H3 : Hid (s2.program 1 2 f = (s3, 5))) (O3 : s3.ops < 1000000) (H4 : Hid (s3.erase 1 = (s4, 5))) (O4 : s4.ops < 1000000)
    (H5 : Hid (s4.read 1 0 = (s5, 0, f))) (O5 : s5.ops < 1000000) (H6 : Hid (s5.read 1 1 = (s6, 0, q))) (O6 : s6.ops < 1000000) (HQL : Hid (q.length = 156)) (HQ : Hid (((q.getD 155 0 : Nat) : Int) = 255)) (H7 : Hid (s6.next 1 = 3)) (H8 : Hid (s6.wear 1 = 0)) (H9 : Hid (s6.misuse = 0))
    (H10 : Hid (s6.program 0 0 f = (s7, 0))) (O7 : s7.ops < 1000000) (H11 : Hid (s7.erase 0 = (s8, 0))) (O8 : s8.ops < 1000000) (H12 : Hid (s8.mark 1 = (s9, 0))) (O9 : s9.ops < 1000000) (H13 : Hid (s9.marked 1 = true)) (H14 : Hid (s9.erase 1 = (s10, 6))) (O10 : s10.ops < 1000000) (H15 : Hid (s10.program 1 3 f = (s11, 6))) (H16 : Hid (s11.misuse = 2)) :
    Calls Try.prog 5 #[.int .i64 x0, .int .i64 x, .int .i64 by_] w (SaysB w true) := by
  go_enter Try.func5, Try.ntmps5
  go_wp2_with fail
  refine (low_any x0 2 (by omega) (by omega) _).mono ?_
  rw [HX.out]
  rintro e W0 ⟨rfl, hw0⟩
  subst hw0
  go_wp2_with fail
  refine (low_any by_ 400 (by omega) (by omega) _).mono ?_
  rw [HY.out]
  rintro e W0 ⟨rfl, hw0⟩
  subst hw0
  go_wp2_with fail
  have S0 := Lib.hid (since_alloc (Below.refl w.heap.size w) (.cells #[.int .i64 2, .int .i64 1, .int .i64 y, .int .u8 0] 45))
  have M0 : Hid (mishK.Lie (w.alloc (.cells #[.int .i64 2, .int .i64 1, .int .i64 y, .int .u8 0] 45)) (w.alloc (.cells #[.int .i64 2, .int .i64 1, .int .i64 y, .int .u8 0] 45)).heap.size (some ⟨w.heap.size, 0, none⟩) 1 [⟨2, 1, y, 0⟩]) := Kind.new1 (K := mishK) w ⟨2, 1, y, 0⟩ ⟨by show _ ≤ (2 : Int); decide, by show (2 : Int) ≤ _; decide, by show _ ≤ (1 : Int); decide, by show (1 : Int) ≤ _; decide, by show _ ≤ y; omega, by show y ≤ _; omega, by show (0 : Int) ≤ 0; decide, by show (0 : Int) ≤ 255; decide⟩ _ rfl
  refine (new_yes 2 4 128 none 0 0 [] (some ⟨w.heap.size, 0, none⟩) 1 1 [⟨2, 1, y, 0⟩] _ (fails_may y hy0 hy1) Kind.Lie.none_ M0.out (by decide) (by decide)).mono ?_
  rw [show Chip.fresh 2 4 128 [] [⟨2, 1, y, 0⟩] = s0 from HS0.out]
  rintro e W0 ⟨g, fp0, rfl, hc0, hb0⟩
  have C0 := Lib.hid (hc0.elder S0.out.size)
  have S1 := Lib.hid (below_chain S0.out hb0)
  clear S0 M0 hc0 hb0
  go_wp2_with fail
  refine (fill_any x 156 _ (by omega)).mono ?_
  rintro e W2 ⟨A2, n2, c2, rfl, ho2, hb2⟩
  obtain rfl : 156 = n2 := by rw [← ho2.len, fillL_len]
  have F2 := Lib.hid (Rest.new ho2 C0.out.lt)
  have S2 := Lib.hid (below_chain S1.out hb2)
  have C2 := Lib.hid (C0.out.since hb2)
  clear hb2 ho2 S1 C0
  rw [HF.out] at F2
  go_wp2_with fail
  refine (program_any 1 0 _ _ _ _ C2.out F2.out.own.bytes F2.out.own.cap F2.out.safe O0).mono ?_
  rw [H1.out]
  rintro e W3 ⟨v3, fp3, rfl, he3, hc3, hs3⟩
  have S3 := Lib.hid (hs3.below S2.out C2.out.ge S2.out.size)
  have F3 := Lib.hid (F2.out.step hs3)
  have C3 := Lib.hid hc3
  obtain rfl := he3.nil
  clear he3
  clear hc3 hs3 S2 F2 C2
  go_wp2_with fail
  refine (fill_any x 156 _ (by omega)).mono ?_
  rintro e W4 ⟨A4, n4, c4, rfl, ho4, hb4⟩
  obtain rfl : 156 = n4 := by rw [← ho4.len, fillL_len]
  have F4 := Lib.hid (Rest.new ho4 C3.out.lt)
  have S4 := Lib.hid (below_chain S3.out hb4)
  have C4 := Lib.hid (C3.out.since hb4)
  clear hb4 ho4 S3 C3
  rw [HF.out] at F4
  go_wp2_with fail
  refine (program_any 1 1 _ _ _ _ C4.out F4.out.own.bytes F4.out.own.cap F4.out.safe O1).mono ?_
  rw [H2.out]
  rintro e W5 ⟨v5, fp5, rfl, he5, hc5, hs5⟩
  have S5 := Lib.hid (hs5.below S4.out C4.out.ge S4.out.size)
  have F5 := Lib.hid (F4.out.step hs5)
  have C5 := Lib.hid hc5
  have E5 := Lib.hid he5.at_
  clear he5
  clear hc5 hs5 S4 F4 C4
  go_wp2_with fail
  refine (err_num E5.out).mono ?_
  rintro e W6 ⟨rfl, hw6⟩
  subst hw6
  clear E5
  go_wp2_with fail
  refine (fill_any x 156 _ (by omega)).mono ?_
  rintro e W7 ⟨A7, n7, c7, rfl, ho7, hb7⟩
  obtain rfl : 156 = n7 := by rw [← ho7.len, fillL_len]
  have F7 := Lib.hid (Rest.new ho7 C5.out.lt)
  have S7 := Lib.hid (below_chain S5.out hb7)
  have C7 := Lib.hid (C5.out.since hb7)
  clear hb7 ho7 S5 C5
  rw [HF.out] at F7
  go_wp2_with fail
  refine (program_any 1 2 _ _ _ _ C7.out F7.out.own.bytes F7.out.own.cap F7.out.safe O2).mono ?_
  rw [H3.out]
  rintro e W8 ⟨v8, fp8, rfl, he8, hc8, hs8⟩
  have S8 := Lib.hid (hs8.below S7.out C7.out.ge S7.out.size)
  have F8 := Lib.hid (F7.out.step hs8)
  have C8 := Lib.hid hc8
  have E8 := Lib.hid he8.at_
  clear he8
  clear hc8 hs8 S7 F7 C7
  go_wp2_with fail
  refine (err_num E8.out).mono ?_
  rintro e W9 ⟨rfl, hw9⟩
  subst hw9
  clear E8
  go_wp2_with fail
  refine (erase_any 1 C8.out O3).mono ?_
  rw [H4.out]
  rintro e W10 ⟨v10, fp10, rfl, he10, hc10, hs10⟩
  have S10 := Lib.hid (hs10.below S8.out C8.out.ge S8.out.size)
  have C10 := Lib.hid hc10
  have E10 := Lib.hid he10.at_
  clear he10
  clear hc10 hs10 S8 C8
  go_wp2_with fail
  refine (err_num E10.out).mono ?_
  rintro e W11 ⟨rfl, hw11⟩
  subst hw11
  clear E10
  go_wp2_with fail
  refine (read_any 1 0 C10.out O4).mono ?_
  rw [H5.out]
  rintro e W12 ⟨v12, A12, n12, c12, fp12, rfl, he12, hr12, hc12, hs12⟩
  have S12 := Lib.hid (hs12.below S10.out C10.out.ge S10.out.size)
  have C12 := Lib.hid hc12
  obtain rfl : 156 = n12 := by rw [← hr12.own.len, HFL.out]
  have X12 := Lib.hid hr12
  obtain rfl := he12.nil
  clear he12
  clear hr12 hc12 hs12 S10 C10
  go_wp2_with fail
  refine (read_any 1 1 C12.out O5).mono ?_
  rw [H6.out]
  rintro e W13 ⟨v13, A13, n13, c13, fp13, rfl, he13, hr13, hc13, hs13⟩
  have S13 := Lib.hid (hs13.below S12.out C12.out.ge S12.out.size)
  have X13 := Lib.hid (X12.out.step hs13)
  have C13 := Lib.hid hc13
  obtain rfl : 156 = n13 := by rw [← hr13.own.len, HQL.out]
  have Y13 := Lib.hid hr13
  obtain rfl := he13.nil
  clear he13
  clear hr13 hc13 hs13 S12 X12 C12
  go_wp2_with fail
  refine (fill_any x 156 _ (by omega)).mono ?_
  rintro e W14 ⟨A14, n14, c14, rfl, ho14, hb14⟩
  obtain rfl : 156 = n14 := by rw [← ho14.len, fillL_len]
  have F14 := Lib.hid (Rest.new ho14 C13.out.lt)
  have S14 := Lib.hid (below_chain S13.out hb14)
  have C14 := Lib.hid (C13.out.since hb14)
  have X14 := Lib.hid (X13.out.since hb14)
  have Y14 := Lib.hid (Y13.out.since hb14)
  clear hb14 ho14 S13 C13 X13 Y13
  rw [HF.out] at F14
  go_wp2_with fail
  refine (same_since _ _ 156 _ _ f _ (by omega) X14.out.own.bytes F14.out.own.bytes).mono ?_
  rintro e W15 ⟨rfl, hb15⟩
  have S15 := Lib.hid (below_chain S14.out hb15)
  have C15 := Lib.hid (C14.out.since hb15)
  have X15 := Lib.hid (X14.out.since hb15)
  have Y15 := Lib.hid (Y14.out.since hb15)
  clear hb15 F14 S14 C14 X14 Y14
  obtain ⟨ad, hAd, hblk, hcell⟩ := Y15.out.own.bytes.at_ (k := 155) (by omega)
  rw [HQ.out, add_at ad 154] at hcell
  subst hAd
  go_wp2_with fail
  refine (next_any 1 C15.out).mono ?_
  rw [H7.out]
  rintro e W16 ⟨rfl, hb16⟩
  have S16 := Lib.hid (below_chain S15.out hb16.out)
  have C16 := Lib.hid (C15.out.since hb16.out)
  have X16 := Lib.hid (X15.out.since hb16.out)
  clear hb16 S15 C15 X15
  go_wp2_with fail
  refine (wear_any 1 C16.out).mono ?_
  rw [H8.out]
  rintro e W17 ⟨rfl, hb17⟩
  have S17 := Lib.hid (below_chain S16.out hb17.out)
  have C17 := Lib.hid (C16.out.since hb17.out)
  have X17 := Lib.hid (X16.out.since hb17.out)
  clear hb17 S16 C16 X16
  go_wp2_with fail
  refine (misuse_any C17.out).mono ?_
  rw [H9.out]
  rintro e W18 ⟨rfl, hb18⟩
  have S18 := Lib.hid (below_chain S17.out hb18.out)
  have C18 := Lib.hid (C17.out.since hb18.out)
  have X18 := Lib.hid (X17.out.since hb18.out)
  clear hb18 S17 C17 X17
  go_wp2_with fail
  refine (fill_any x 156 _ (by omega)).mono ?_
  rintro e W19 ⟨A19, n19, c19, rfl, ho19, hb19⟩
  obtain rfl : 156 = n19 := by rw [← ho19.len, fillL_len]
  have F19 := Lib.hid (Rest.new ho19 C18.out.lt)
  have S19 := Lib.hid (below_chain S18.out hb19)
  have C19 := Lib.hid (C18.out.since hb19)
  have X19 := Lib.hid (X18.out.since hb19)
  clear hb19 ho19 S18 C18 X18
  rw [HF.out] at F19
  go_wp2_with fail
  refine (program_any 0 0 _ _ _ _ C19.out F19.out.own.bytes F19.out.own.cap F19.out.safe O6).mono ?_
  rw [H10.out]
  rintro e W20 ⟨v20, fp20, rfl, he20, hc20, hs20⟩
  have S20 := Lib.hid (hs20.below S19.out C19.out.ge S19.out.size)
  have X20 := Lib.hid (X19.out.step hs20)
  have F20 := Lib.hid (F19.out.step hs20)
  have C20 := Lib.hid hc20
  obtain rfl := he20.nil
  clear he20
  clear hc20 hs20 S19 X19 F19 C19
  go_wp2_with fail
  refine (erase_any 0 C20.out O7).mono ?_
  rw [H11.out]
  rintro e W21 ⟨v21, fp21, rfl, he21, hc21, hs21⟩
  have S21 := Lib.hid (hs21.below S20.out C20.out.ge S20.out.size)
  have X21 := Lib.hid (X20.out.step hs21)
  have C21 := Lib.hid hc21
  obtain rfl := he21.nil
  clear he21
  clear hc21 hs21 S20 X20 C20
  go_wp2_with fail
  refine (mark_any 1 C21.out O8).mono ?_
  rw [H12.out]
  rintro e W22 ⟨v22, fp22, rfl, he22, hc22, hs22⟩
  have S22 := Lib.hid (hs22.below S21.out C21.out.ge S21.out.size)
  have X22 := Lib.hid (X21.out.step hs22)
  have C22 := Lib.hid hc22
  obtain rfl := he22.nil
  clear he22
  clear hc22 hs22 S21 X21 C21
  go_wp2_with fail
  refine (marked_any 1 C22.out).mono ?_
  rw [H13.out]
  rintro e W23 ⟨rfl, hb23⟩
  have S23 := Lib.hid (below_chain S22.out hb23.out)
  have C23 := Lib.hid (C22.out.since hb23.out)
  have X23 := Lib.hid (X22.out.since hb23.out)
  clear hb23 S22 C22 X22
  go_wp2_with fail
  refine (erase_any 1 C23.out O9).mono ?_
  rw [H14.out]
  rintro e W24 ⟨v24, fp24, rfl, he24, hc24, hs24⟩
  have S24 := Lib.hid (hs24.below S23.out C23.out.ge S23.out.size)
  have X24 := Lib.hid (X23.out.step hs24)
  have C24 := Lib.hid hc24
  have E24 := Lib.hid he24.at_
  clear he24
  clear hc24 hs24 S23 X23 C23
  go_wp2_with fail
  refine (err_num E24.out).mono ?_
  rintro e W25 ⟨rfl, hw25⟩
  subst hw25
  clear E24
  go_wp2_with fail
  refine (program_any 1 3 _ _ _ _ C24.out X24.out.own.bytes X24.out.own.cap X24.out.safe O10).mono ?_
  rw [H15.out]
  rintro e W26 ⟨v26, fp26, rfl, he26, hc26, hs26⟩
  have S26 := Lib.hid (hs26.below S24.out C24.out.ge S24.out.size)
  have X26 := Lib.hid (X24.out.step hs26)
  have C26 := Lib.hid hc26
  have E26 := Lib.hid he26.at_
  clear he26
  clear hc26 hs26 S24 X24 C24
  go_wp2_with fail
  refine (err_num E26.out).mono ?_
  rintro e W27 ⟨rfl, hw27⟩
  subst hw27
  clear E26
  go_wp2_with fail
  refine (misuse_any C26.out).mono ?_
  rw [H16.out]
  rintro e W28 ⟨rfl, hb28⟩
  have S28 := Lib.hid (below_chain S26.out hb28.out)
  have C28 := Lib.hid (C26.out.since hb28.out)
  clear hb28 S26 C26
  go_wp2_with fail
  refine (awake_any _).mono ?_
  rintro e W29 ⟨rfl, hb29⟩
  have S29 := Lib.hid (below_chain S28.out hb29.out)
  go_wp2_with fail
  go_ret
  exact ⟨rfl, S29⟩
theorem fails_law (x0 x by_ : Int) (w : World) : Calls Try.prog 5 #[.int .i64 x0, .int .i64 x, .int .i64 by_] w (SaysB w true) := by
  obtain ⟨hy0, hy1⟩ := lowM_bd by_ 400 (by omega)
  obtain ⟨hb0, hb1⟩ := lowM_bd x0 2 (by omega)
  have hb : lowM x0 2 = 0 ∨ lowM x0 2 = 1 := by omega
  rcases hb with hb | hb
  · obtain ⟨s1, s2, s3, s4, s5, s6, s7, s8, s9, s10, s11, q, h1, h2, h3, h4, h5, h6, hql, hq, h7, h8, h9, h10, h11, h12, h13, h14, h15, h16, o1, o2, o3, o4, o5, o6, o7, o8, o9, o10⟩ := fails_math0 (lowM by_ 400) hy0 (fillL x 156) (fillL_len _ _)
    exact fails_0 x0 x by_ _ _ q _ s1 s2 s3 s4 s5 s6 s7 s8 s9 s10 s11 w hy0 hy1 hb rfl rfl (by show 0 < 1000000; decide) rfl (fillL_len _ _) h1 o1 h2 o2 h3 o3 h4 o4 h5 o5 h6 o6 hql hq h7 h8 h9 h10 o7 h11 o8 h12 o9 h13 h14 o10 h15 h16
  · obtain ⟨s1, s2, s3, s4, s5, s6, s7, s8, s9, s10, s11, q, h1, h2, h3, h4, h5, h6, hql, hq, h7, h8, h9, h10, h11, h12, h13, h14, h15, h16, o1, o2, o3, o4, o5, o6, o7, o8, o9, o10⟩ := fails_math1 (lowM by_ 400) hy0 (fillL x 156) (fillL_len _ _)
    exact fails_1 x0 x by_ _ _ q _ s1 s2 s3 s4 s5 s6 s7 s8 s9 s10 s11 w hy0 hy1 hb rfl rfl (by show 0 < 1000000; decide) rfl (fillL_len _ _) h1 o1 h2 o2 h3 o3 h4 o4 h5 o5 h6 o6 hql hq h7 h8 h9 h10 o7 h11 o8 h12 o9 h13 h14 o10 h15 h16
end Go.Proofs.Ytgamjffedlkbeaa
