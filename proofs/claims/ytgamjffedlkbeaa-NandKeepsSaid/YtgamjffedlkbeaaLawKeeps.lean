/- NandKeeps: true, whatever its arguments are. Conditions: the acts' cells. -/
import Derived.Test.YtgamjffedlkbeaaNandAwake
import Derived.Test.YtgamjffedlkbeaaFill
import Derived.Test.YtgamjffedlkbeaaActs8
import Derived.Test.YtgamjffedlkbeaaTail
set_option linter.unusedVariables false
set_option linter.unusedSimpArgs false
namespace Go.Proofs.Ytgamjffedlkbeaa
open Go.RowKit

/-- What stays of NandKeeps' chip. -/
structure KeepS (raw : List Nat) (s : Chip) : Prop where
  on : s.on = true
  nb : s.nb = 4
  np : s.np = 4
  ns : s.ns = 128
  ms : s.ms = []
  len : s.bs.length = 4
  m0 : (s.blk 0).marked = false
  f0 : (s.blk 0).failed = false
  n0 : (s.blk 0).next = 1
  w0 : (s.blk 0).wear = 0
  p0 : s.page 0 0 = raw
section
variable {raw r : List Nat} {s s' : Chip} {b p : Int}
theorem KeepS.to (h : KeepS raw s) (e1 : s'.on = s.on) (e2 : s'.nb = s.nb) (e3 : s'.np = s.np) (e4 : s'.ns = s.ns) (e5 : s'.ms = s.ms) (e6 : s'.bs.length = s.bs.length) (e7 : s'.blk 0 = s.blk 0) : KeepS raw s' :=
  ⟨e1.trans h.on, e2.trans h.nb, e3.trans h.np, e4.trans h.ns, e5.trans h.ms, e6.trans h.len, by rw [e7]; exact h.m0, by rw [e7]; exact h.f0, by rw [e7]; exact h.n0, by rw [e7]; exact h.w0, by unfold Chip.page; rw [e7]; exact h.p0⟩
theorem KeepS.tick (h : KeepS raw s) : KeepS raw s.tick := h.to rfl rfl rfl rfl rfl rfl rfl
theorem KeepS.setB (h : KeepS raw s) (hb : b.toNat ≠ 0) (x : Blk) : KeepS raw (s.setB b x) := h.to rfl rfl rfl rfl rfl (List.length_set ..) (Chip.blk_other (c := 0) (fun e => hb e.symm) x)
theorem KeepS.offIf (h : KeepS raw s) : s.tick.offIf false = s.tick := by cases s; simp [Chip.offIf, Chip.tick]
theorem KeepS.program (h : KeepS raw s) (hb : b.toNat ≠ 0) : KeepS raw (s.program b p r).1 ∧ (s.program b p r).1.ops ≤ s.ops + 1 := by
  unfold Chip.program
  rw [Chip.dark_none h.ms, Chip.fails_none h.ms]
  by_cases h1 : s.why b p r.length ≠ 0
  · rw [if_pos h1]; exact ⟨h, Nat.le_succ _⟩
  rw [if_neg h1]
  by_cases h2 : (s.blk b).marked = true ∨ p ≠ ((s.blk b).next : Int)
  · rw [if_pos h2, h.offIf]; exact ⟨h.tick.to rfl rfl rfl rfl rfl rfl rfl, Nat.le_refl _⟩
  rw [if_neg h2]
  by_cases h3 : (s.blk b).failed = true
  · rw [if_pos h3, h.offIf]; exact ⟨h.tick.setB hb _, Nat.le_refl _⟩
  rw [if_neg h3, if_neg (by decide), if_neg (by decide)]
  exact ⟨(h.tick.setB hb _).to rfl rfl rfl rfl rfl rfl rfl, Nat.le_refl _⟩
theorem KeepS.erase (h : KeepS raw s) (hb : b.toNat ≠ 0) : KeepS raw (s.erase b).1 ∧ (s.erase b).1.ops ≤ s.ops + 1 := by
  unfold Chip.erase
  rw [Chip.dark_none h.ms, Chip.fails_none h.ms]
  by_cases h1 : s.why b 0 s.long ≠ 0
  · rw [if_pos h1]; exact ⟨h, Nat.le_succ _⟩
  rw [if_neg h1]
  by_cases h2 : (s.blk b).marked = true
  · rw [if_pos h2, h.offIf]; exact ⟨h.tick.to rfl rfl rfl rfl rfl rfl rfl, Nat.le_refl _⟩
  rw [if_neg h2]
  by_cases h3 : (s.blk b).failed = true ∨ false = true
  · rw [if_pos h3, h.offIf]; exact ⟨h.tick.setB hb _, Nat.le_refl _⟩
  rw [if_neg h3, if_neg (by decide)]
  exact ⟨h.tick.setB hb _, Nat.le_refl _⟩
theorem KeepS.why (h : KeepS raw s) {l : Nat} (hl : l = 156) : s.why 0 0 l = 0 :=
  Chip.why_ok h.on (by decide) (by rw [h.nb]; decide) (by decide) (by rw [h.np]; decide) (by rw [hl]; unfold Chip.long; rw [h.ns])
theorem KeepS.read (h : KeepS raw s) : ∃ s', s.read 0 0 = (s', 0, raw) ∧ KeepS raw s' ∧ s'.ops = s.ops + 1 := by
  refine ⟨s.tick, ?_, h.tick, rfl⟩
  rw [Chip.read_ok (h.why (by unfold Chip.long; rw [h.ns])) (Chip.dark_none h.ms), h.p0]
theorem KeepS.next0 (h : KeepS raw s) : s.next 0 = 1 := by unfold Chip.next Chip.has; rw [h.nb, h.n0]; rfl
theorem KeepS.wear0 (h : KeepS raw s) : s.wear 0 = 0 := by unfold Chip.wear Chip.has; rw [h.nb, h.w0]; rfl
/-- The block is erased. -/
theorem KeepS.last (h : KeepS raw s) : ∃ s1 s2 : Chip, ∃ q : List Nat, s.erase 0 = (s1, 0) ∧ s1.ops = s.ops + 1 ∧ s1.wear 0 = 1 ∧ s1.next 0 = 0 ∧ s1.read 0 0 = (s2, 0, q) ∧ q.length = 156 ∧ ((q.getD 0 0 : Nat) : Int) = 255 ∧ ((q.getD 155 0 : Nat) : Int) = 255 := by
  have e := Chip.erase_ok (s := s) (b := 0) (h.why (by unfold Chip.long; rw [h.ns])) h.m0 h.f0 (Chip.dark_none h.ms) (Chip.fails_none h.ms)
  have hb : (s.tick.setB 0 { s.blk 0 with pg := s.filled 255, next := 0, wear := (s.blk 0).wear + 1 }).blk 0 = { s.blk 0 with pg := s.filled 255, next := 0, wear := (s.blk 0).wear + 1 } := Chip.blk_setB (s := s.tick) (by decide) (by show 0 < s.bs.length; rw [h.len]; decide) _
  obtain ⟨s1, hs1⟩ : ∃ s1, s1 = s.tick.setB 0 { s.blk 0 with pg := s.filled 255, next := 0, wear := (s.blk 0).wear + 1 } := ⟨_, rfl⟩
  rw [← hs1] at e hb
  have w1 : s1.why 0 0 s1.long = 0 := Chip.why_ok (by rw [hs1]; exact h.on) (by decide) (by rw [hs1]; show (0 : Int) < (s.nb : Int); rw [h.nb]; decide) (by decide) (by rw [hs1]; show (0 : Int) < (s.np : Int); rw [h.np]; decide) rfl
  have hp : s1.page 0 0 = List.replicate 156 255 := by
    unfold Chip.page
    rw [hb]
    show (s.filled 255).getD 0 [] = _
    unfold Chip.filled Chip.long
    rw [h.np, h.ns]; rfl
  refine ⟨s1, s1.tick, _, e, by rw [hs1]; rfl, ?_, ?_, Chip.read_ok w1 (Chip.dark_none (by rw [hs1]; exact h.ms)), ?_, ?_, ?_⟩
  · unfold Chip.wear Chip.has; rw [hb, show s1.nb = 4 by rw [hs1]; exact h.nb]; show (s.blk 0).wear + 1 = 1; rw [h.w0]
  · unfold Chip.next Chip.has; rw [hb, show s1.nb = 4 by rw [hs1]; exact h.nb]; rfl
  · rw [hp, List.length_replicate]
  · rw [hp, List.getD_eq_getElem?_getD, List.getElem?_replicate]; rfl
  · rw [hp, List.getD_eq_getElem?_getD, List.getElem?_replicate]; rfl
end
theorem keep_start (raw : List Nat) (hl : raw.length = 156) : ∃ s1 s2 : Chip, (Chip.fresh 4 4 128 [] []).program 0 0 raw = (s1, 0) ∧ s1.ops = 1 ∧ s1.program 0 0 raw = (s2, 6) ∧ KeepS raw s2 ∧ s2.ops = 2 := by
  have wy : ∀ s : Chip, s.on = true → s.nb = 4 → s.np = 4 → s.ns = 128 → s.why 0 0 raw.length = 0 := fun s h1 h2 h3 h4 =>
    Chip.why_ok h1 (by decide) (by rw [h2]; decide) (by decide) (by rw [h3]; decide) (by rw [hl]; unfold Chip.long; rw [h4])
  refine ⟨_, _, Chip.program_ok (wy _ rfl rfl rfl rfl) rfl rfl rfl rfl rfl, rfl, Chip.program_bad (wy _ rfl rfl rfl rfl) (Or.inr (by show (0 : Int) ≠ ((1 : Nat) : Int); decide)) rfl, ⟨rfl, rfl, rfl, rfl, rfl, rfl, rfl, rfl, rfl, rfl, rfl⟩, rfl⟩
theorem run_act_index (ad : Addr) (n c k : Nat) (i0 : (0 : Int) ≤ (k : Int)) (i1 : (k : Int) < (n : Int)) (w : World) : (Instr.indexAt 22 (.slice (some ad) n c) (.int .i64 (k : Int))).run Try.prog w = .ok (.pointer (some (ad.add (k * 6)))) w := by
  go_simp
theorem run_act_field (p : Addr) (w : World) (hp : ∃ v, w.cell? p = some v) : (Instr.fieldAt 36 (.pointer (some p)) 3).run Try.prog w = .ok (.pointer (some ⟨p.block, p.off + 3, none⟩)) w := by
  obtain ⟨v, hv⟩ := hp
  go_simp
theorem run_act_load (p : Addr) (z : Int) (w : World) (hc : w.cell? p = some (.int .i64 z)) : (Instr.loadAt 3 (.pointer (some p))).run Try.prog w = .ok (.int .i64 z) w := by go_simp
/-- What Program leaves, whatever it answers. -/
def KeepF (w : World) (g : Nat) (raw : List Nat) (m base c : Nat) (A : Option Addr) (W : World) : Prop := ∃ fp' s', ChipAt W w.heap.size fp' g s' ∧ KeepS raw s' ∧ s'.ops ≤ m ∧ Rest fp' W base A 156 c raw ∧ Below w.heap.size w W
theorem KeepF.since {w : World} {g : Nat} {raw : List Nat} {m base c : Nat} {A : Option Addr} {W W' : World} (h : KeepF w g raw m base c A W) (hb : Later W W') : KeepF w g raw m base c A W' := by
  obtain ⟨fp, s, h1, h2, h3, h4, h5⟩ := h
  exact ⟨fp, s, h1.since hb, h2, h3, h4.since hb, below_chain h5 hb⟩
set_option maxHeartbeats 32000000 in
set_option maxRecDepth 20000 in
theorem keeps_law (x : Int) (A : Option Addr) (n c : Nat) (xs : List A8) (w : World) (hn : n ≤ 9223372036854775807) (hA : act8K.Lie w w.heap.size A n xs) :
    Calls Try.prog 3 #[.int .i64 x, .slice A n c] w (SaysB w true) := by
  by_cases h40 : 40 < n
  · clear hA
    go_enter Try.func3, Try.ntmps3
    go_wp2_with fail
    refine (awake_any _).mono ?_
    rintro e W1 ⟨rfl, hb⟩
    go_wp2_with fail
    go_ret
    exact ⟨rfl, hb⟩
  have hn40 : n ≤ 40 := by omega
  have HA := Lib.hid hA
  clear hA h40
  obtain ⟨raw, HRAW⟩ : ∃ raw, Hid (fillL x 156 = raw) := ⟨_, rfl⟩
  have HRL : Hid (raw.length = 156) := by rw [← HRAW.out]; exact fillL_len _ _
  obtain ⟨s1, s2, h1, o1, h2, hk2, o2⟩ := keep_start raw HRL.out
  have H1 := Lib.hid h1
  have H2 := Lib.hid h2
  have HK2 := Lib.hid hk2
  have HP2 : Hid (s2.ops ≤ 2 + 2 * 0) := by show _ ≤ _; omega
  have O1 : s1.ops < 1000000 := by omega
  clear h1 h2 hk2 o1 o2
  obtain ⟨s0, HS0⟩ : ∃ s0, Hid (Chip.fresh 4 4 128 [] [] = s0) := ⟨_, rfl⟩
  have O0 : s0.ops < 1000000 := by rw [← HS0.out]; show 0 < 1000000; decide
  rw [HS0.out] at H1
  go_enter Try.func3, Try.ntmps3
  go_wp2_with fail
  refine (new_yes 4 4 128 none 0 0 [] none 0 0 [] _ rfl Kind.Lie.none_ Kind.Lie.none_ (by decide) (by decide)).mono ?_
  rw [HS0.out]
  rintro e W0 ⟨g, fp0, rfl, hc0, hb0⟩
  have C0 := Lib.hid hc0
  have S0 := Lib.hid hb0
  clear hc0 hb0
  go_wp2_with fail
  refine (fill_any x 156 _ (by omega)).mono ?_
  rintro e W1 ⟨A1, n1, c1, rfl, ho1, hb1⟩
  obtain rfl : 156 = n1 := by rw [← ho1.len, fillL_len]
  have F1 := Lib.hid (Rest.new ho1 C0.out.lt)
  have S1 := Lib.hid (below_chain S0.out hb1)
  have C1 := Lib.hid (C0.out.since hb1)
  clear hb1 ho1 S0 C0
  rw [HRAW.out] at F1
  go_wp2_with fail
  refine (program_any 0 0 _ _ _ _ C1.out F1.out.own.bytes F1.out.own.cap F1.out.safe O0).mono ?_
  rw [H1.out]
  rintro e W2 ⟨v2, fp2, rfl, he2, hc2, hs2⟩
  have S2 := Lib.hid (hs2.below S1.out C1.out.ge S1.out.size)
  have F2 := Lib.hid (F1.out.step hs2)
  have C2 := Lib.hid hc2
  obtain rfl := he2.nil
  clear he2
  clear hc2 hs2 S1 F1 C1
  go_wp2_with fail
  refine (program_any 0 0 _ _ _ _ C2.out F2.out.own.bytes F2.out.own.cap F2.out.safe O1).mono ?_
  rw [H2.out]
  rintro e W3 ⟨v3, fp3, rfl, he3, hc3, hs3⟩
  have S3 := Lib.hid (hs3.below S2.out C2.out.ge S2.out.size)
  have F3 := Lib.hid (F2.out.step hs3)
  have C3 := Lib.hid hc3
  have E3 := Lib.hid he3.at_
  clear he3
  clear hc3 hs3 S2 F2 C2
  go_wp2_with fail
  refine (err_num E3.out).mono ?_
  rintro e W4 ⟨rfl, hw4⟩
  subst hw4
  clear E3
  go_wp2_with fail
  obtain ⟨AR, HAR⟩ : ∃ AR, AR = A1 := ⟨_, rfl⟩
  obtain ⟨cR, HCR⟩ : ∃ cR, cR = c1 := ⟨_, rfl⟩
  obtain ⟨bR, HBR⟩ : ∃ bR, bR = W0.heap.size := ⟨_, rfl⟩
  rw [← HAR, ← HCR, ← HBR] at F3
  rw [← HAR, ← HCR]
  clear HAR HCR HBR
  go_loopw [7] (fun t7 wr => ∃ (i : Nat) (fp : Nat → Prop) (s : Chip), t7 = .int .i64 i ∧ i ≤ n ∧ Hid (KeepS raw s) ∧ Hid (s.ops ≤ 2 + 2 * i) ∧ Hid (ChipAt wr w.heap.size fp g s) ∧ Hid (Rest fp wr bR AR 156 cR raw) ∧ Hid (Below w.heap.size w wr)) (fun t7 _ => n - (intOf t7).toNat)
  case atStart => exact ⟨0, fp3, s2, rfl, Nat.zero_le _, HK2, HP2, C3, F3, S3⟩
  clear C3 F3 S3 HK2 HP2 H1 H2 O0 O1 HS0
  case round =>
    obtain ⟨Wa, rfl⟩ : ∃ Wa, Wa = wr := ⟨_, rfl⟩
    obtain ⟨i, fp, s, rfl, hi, HK, HP, HC, HR, HB⟩ := hrel
    by_cases hlt : i < n
    · skip
      obtain ⟨ad, rfl, hblk, hat⟩ := act8_at (HA.out.since HB.out) hlt
      obtain ⟨act, HACT⟩ : ∃ act, Hid (xs.getD i A8.zero = act) := ⟨_, rfl⟩
      rw [HACT.out] at hat
      obtain ⟨c0, c1, c2, c3, c4, c5⟩ := hat
      obtain ⟨dd, bb, pp, nn, st, sh⟩ := act
      dsimp only at c0 c1 c2 c3 c4 c5
      have i0 : (0 : Int) ≤ (i : Int) := by omega
      have i1 : (i : Int) < (n : Int) := by omega
      obtain ⟨z, HZ⟩ : ∃ z, Hid (lowM bb 3 = z) := ⟨_, rfl⟩
      have hzb := lowM_bd bb 3 (by omega)
      rw [HZ.out] at hzb
      obtain ⟨z0, z1⟩ := hzb
      obtain ⟨b, HBZ⟩ : ∃ b : Int, 1 + z = b := ⟨_, rfl⟩
      have hb1 : b.toNat ≠ 0 := by omega
      have HB1 := Lib.hid hb1
      clear hb1
      have OP : s.ops < 999000 := by have := HP.out; omega
      have OP6 : s.ops < 1000000 := by omega
      go_wp2_with fail
      refine (low_any bb 3 (by omega) (by omega) _).mono ?_
      rw [HZ.out]
      rintro e w' ⟨rfl, rfl⟩
      by_cases hd1 : dd = 1
      · have hdb : (dd == 1) = true := by simpa using hd1
        clear hd1 c1 c2 c4 c5
        go_wp2_with fail
        have C0 := Lib.hid c0
        have C3 := Lib.hid c3
        obtain ⟨WD, HWD⟩ : ∃ W, Hid (W = Wa.drew) := ⟨_, rfl⟩
        have HDL : Hid (Later Wa WD) := by rw [HWD.out]; exact (Below.refl _ _).drew
        refine region_of_steps4 (by kernel_rfl) (fact2Of [.is (.pointer (some ⟨g, 0, none⟩)), .is (.int .i64 b), .is (.pointer (some ⟨g, 0, none⟩)), .is (.int .i64 b), .is (.int .i64 (s.next b : Int)), .is (.slice (some ad) n c), .is (.int .i64 (i : Int)), .is (.pointer (some (ad.add (i * 6)))), .is (.pointer (some ⟨(ad.add (i * 6)).block, (ad.add (i * 6)).off + 3, none⟩)), .is (.int .i64 nn), .own WD.heap.size 156 (fillL nn 156), .that (fun _ W => KeepF w g raw (2 + 2 * i + 1) bR cR AR W) (fun v w1 w2 h hb => KeepF.since h hb)]) (deadOf [(10, 11)]) (Turns [11]) (TillAll [11] WD) (by kernel_rfl)
          (fun i j v w w' hm hd hn hdd h hR => turns_stays _ _ [11] [(10, 11)] (by kernel_rfl) i j v w w' hm hd hn hdd h hR) (fun listed j w w' h hl k => tillall_step h hl k) (fun listed => by rw [← HWD.out]; exact tillall_start _ _ _) ?_ ?_
        · refine Steps3.cons ?_ (Steps3.cons ?_ (Steps3.cons ?_ (Steps3.cons ?_ (Steps3.cons ?_ (Steps3.cons ?_ (Steps3.cons ?_ (Steps3.cons ?_ (Steps3.cons ?_ (Steps3.cons ?_ (Steps3.cons ?_ (Steps3.cons ?_ (Steps3.nil))))))))))))
          · intro listed a W H hw hl hd
            have t5 : a.tmps.getD 5 undef = .pointer (some ⟨g, 0, none⟩) := (H.old 5 (by kernel_rfl)).trans rfl
            exact step2_value (i := 0) rfl rfl (run_op_move rfl t5) (turns_refl _) rfl
          · intro listed a W H hw hl hd
            have t8 : a.tmps.getD 8 undef = .int .i64 b := (H.old 8 (by kernel_rfl)).trans rfl
            exact step2_value (i := 1) rfl rfl (run_op_move rfl t8) (turns_refl _) rfl
          · intro listed a W H hw hl hd
            have t5 : a.tmps.getD 5 undef = .pointer (some ⟨g, 0, none⟩) := (H.old 5 (by kernel_rfl)).trans rfl
            exact step2_value (i := 2) rfl rfl (run_op_move rfl t5) (turns_refl _) rfl
          · intro listed a W H hw hl hd
            have t8 : a.tmps.getD 8 undef = .int .i64 b := (H.old 8 (by kernel_rfl)).trans rfl
            exact step2_value (i := 3) rfl rfl (run_op_move rfl t8) (turns_refl _) rfl
          · intro listed a W H hw hl hd
            have t59 : a.tmps.getD 59 undef = .pointer (some ⟨g, 0, none⟩) := H.get 2 59 (by kernel_rfl) (dep_of hd 2 (by kernel_rfl)) (alive_none (by kernel_rfl))
            have t60 : a.tmps.getD 60 undef = .int .i64 b := H.get 3 60 (by kernel_rfl) (dep_of hd 3 (by kernel_rfl)) (alive_none (by kernel_rfl))
            refine step2_call (i := 4) rfl rfl (run_op_call (vs := #[.pointer (some ⟨g, 0, none⟩), .int .i64 b]) Try.func13 (by kernel_rfl) (by kernel_rfl) rfl (by simp only [List.map_toArray, List.map_cons, List.map_nil]; show #[a.tmps.getD 59 undef, a.tmps.getD 60 undef] = _; rw [t59, t60])) ?_
            refine (next_any b (HC.out.since (later_trans _ _ _ (Hid.out HDL) (hw (H.nothing 3 hl (by kernel_rfl)))))).mono ?_
            rintro e W2 ⟨rfl, hb⟩
            exact ⟨_, rfl, turns_later hb.out, rfl⟩
          · intro listed a W H hw hl hd
            have t1 : a.tmps.getD 1 undef = .slice (some ad) n c := (H.old 1 (by kernel_rfl)).trans rfl
            exact step2_value (i := 5) rfl rfl (run_op_move rfl t1) (turns_refl _) rfl
          · intro listed a W H hw hl hd
            have t7 : a.tmps.getD 7 undef = .int .i64 (i : Int) := (H.old 7 (by kernel_rfl)).trans rfl
            exact step2_value (i := 6) rfl rfl (run_op_move rfl t7) (turns_refl _) rfl
          · intro listed a W H hw hl hd
            have t62 : a.tmps.getD 62 undef = .slice (some ad) n c := H.get 5 62 (by kernel_rfl) (dep_of hd 5 (by kernel_rfl)) (alive_none (by kernel_rfl))
            have t63 : a.tmps.getD 63 undef = .int .i64 (i : Int) := H.get 6 63 (by kernel_rfl) (dep_of hd 6 (by kernel_rfl)) (alive_none (by kernel_rfl))
            exact step2_value (i := 7) rfl rfl (run_op_index rfl t62 t63 (run_act_index ad n c i i0 i1 W)) (turns_refl _) rfl
          · intro listed a W H hw hl hd
            have t64 : a.tmps.getD 64 undef = .pointer (some (ad.add (i * 6))) := H.get 7 64 (by kernel_rfl) (dep_of hd 7 (by kernel_rfl)) (alive_none (by kernel_rfl))
            exact step2_value (i := 8) rfl rfl (run_op_fieldAddr rfl t64 (run_act_field _ W ⟨_, later_cell (later_trans _ _ _ (Hid.out HDL) (hw (H.nothing 3 hl (by kernel_rfl)))) C0.out⟩)) (turns_refl _) rfl
          · intro listed a W H hw hl hd
            have t65 : a.tmps.getD 65 undef = .pointer (some ⟨(ad.add (i * 6)).block, (ad.add (i * 6)).off + 3, none⟩) := H.get 8 65 (by kernel_rfl) (dep_of hd 8 (by kernel_rfl)) (alive_none (by kernel_rfl))
            exact step2_value (i := 9) rfl rfl (run_op_load rfl t65 (run_act_load _ nn W (later_cell (later_trans _ _ _ (Hid.out HDL) (hw (H.nothing 3 hl (by kernel_rfl)))) C3.out))) (turns_refl _) rfl
          · intro listed a W H hw hl hd
            have t66 : a.tmps.getD 66 undef = .int .i64 nn := H.get 9 66 (by kernel_rfl) (dep_of hd 9 (by kernel_rfl)) (alive_none (by kernel_rfl))
            refine step2_call (i := 10) rfl rfl (run_op_call (vs := #[.int .i64 nn, .int .i64 156]) Try.func9 (by kernel_rfl) (by kernel_rfl) rfl (by simp only [List.map_toArray, List.map_cons, List.map_nil]; show #[a.tmps.getD 66 undef, .int .i64 156] = _; rw [t66])) ?_
            refine (fill_any nn 156 W (by omega)).mono ?_
            rintro e W2 ⟨A2, n2, c2, rfl, ho, hb⟩
            obtain rfl : 156 = n2 := by rw [← ho.len, fillL_len]
            have hWD : WD.heap.size ≤ W.heap.size := (hw (H.nothing 3 hl (by kernel_rfl))).size
            exact ⟨_, rfl, turns_later hb, A2, c2, rfl, ho.elder hWD⟩
          · intro listed a W H hw hl hd
            have t57 : a.tmps.getD 57 undef = .pointer (some ⟨g, 0, none⟩) := H.get 0 57 (by kernel_rfl) (dep_of hd 0 (by kernel_rfl)) (alive_none (by kernel_rfl))
            have t58 : a.tmps.getD 58 undef = .int .i64 b := H.get 1 58 (by kernel_rfl) (dep_of hd 1 (by kernel_rfl)) (alive_none (by kernel_rfl))
            have t61 : a.tmps.getD 61 undef = .int .i64 (s.next b : Int) := H.get 4 61 (by kernel_rfl) (dep_of hd 4 (by kernel_rfl)) (alive_none (by kernel_rfl))
            obtain ⟨A67, q67, t67, o67⟩ := H.get 10 67 (by kernel_rfl) (dep_of hd 10 (by kernel_rfl)) (alive_now (by kernel_rfl) hl)
            refine step2_call (i := 11) rfl rfl (run_op_call (vs := #[.pointer (some ⟨g, 0, none⟩), .int .i64 b, .int .i64 (s.next b : Int), .slice A67 156 q67]) Try.func10 (by kernel_rfl) (by kernel_rfl) rfl (by simp only [List.map_toArray, List.map_cons, List.map_nil]; show #[a.tmps.getD 57 undef, a.tmps.getD 58 undef, a.tmps.getD 61 undef, a.tmps.getD 67 undef] = _; rw [t57, t58, t61, t67])) ?_
            have hL := hw (H.nothing 0 hl (by kernel_rfl))
            have hC2 := (HC.out.since (later_trans _ _ _ (Hid.out HDL) hL))
            have hR2 := (HR.out.since (later_trans _ _ _ (Hid.out HDL) hL))
            have hB2 := below_chain HB.out (later_trans _ _ _ (Hid.out HDL) hL)
            refine (program_any b (s.next b : Int) A67 156 q67 _ hC2 o67.bytes o67.cap (fun y hy hf => by have h1 := o67.blk_ge y hy; have h2 := HC.out.lt y hf; have h3 : Wa.heap.size ≤ WD.heap.size := (Hid.out HDL).size; omega) OP6).mono ?_
            rintro e W2 ⟨v, fp', rfl, he, hc, hs⟩
            obtain ⟨hk, ho⟩ := HK.out.program (b := b) (p := (s.next b : Int)) (r := fillL nn 156) HB1.out
            exact ⟨_, rfl, turns_here (by decide), fp', _, hc, hk, by have := HP.out; omega, hR2.step hs, hs.below hB2 hC2.ge (hB2.size)⟩
        · intro a WC listed hdef hsz hw hall hact
          obtain ⟨fp2, sk2, hc2, hk2, ho2, hr2, hb2⟩ := hall 11 _ rfl (by kernel_rfl)
          obtain ⟨u, hu⟩ : ∃ u : Nat → Value, ∀ k, a.tmps.getD k undef = u k := ⟨_, fun _ => rfl⟩
          simp only [hu] at hact
          have hact' : a = ([57, 58, 59, 60, 61, 62, 63, 64, 65, 66, 67, 68] : List Nat).foldl (fun b k => b.put (some k) (u k)) _ := hact
          simp only [List.foldl] at hact'
          simp only [Act.put, List.setIfInBounds_toArray, List.set_cons_succ, List.set_cons_zero] at hact'
          have HAC := Lib.hid hact'
          have HC2 := Lib.hid hc2
          have HK2 := Lib.hid hk2
          have HP2 := Lib.hid ho2
          have HR2 := Lib.hid hr2
          have HB2 := Lib.hid hb2
          clear hu hact hact' hall hdef hsz hw hc2 hk2 ho2 hr2 hb2 HC HR HB HK HP C0 C3 c0 c3
          rw [HAC.out]
          obtain ⟨sr, hr1, hr2, hr3⟩ := HK2.out.read
          have HR1 := Lib.hid hr1
          have HKR := Lib.hid hr2
          have HPR : Hid (sr.ops ≤ 2 + 2 * (i + 1)) := by have := HP2.out; show _ ≤ _; omega
          have OPR : sk2.ops < 1000000 := by have := HP2.out; omega
          have HN0 := Lib.hid hr2.next0
          have HW0 := Lib.hid hr2.wear0
          clear hr1 hr2 hr3
          go_wp2_with fail
          refine (read_any 0 0 HC2.out OPR).mono ?_
          rw [HR1.out]
          rintro e W31 ⟨v31, A31, n31, c31, fp31, rfl, he31, hr31, hc31, hs31⟩
          have S31 := Lib.hid (hs31.below HB2.out HC2.out.ge HB2.out.size)
          have F31 := Lib.hid (HR2.out.step hs31)
          have C31 := Lib.hid hc31
          obtain rfl : 156 = n31 := by rw [← hr31.own.len, HRL.out]
          have X31 := Lib.hid hr31
          obtain rfl := he31.nil
          clear he31
          clear hr31 hc31 hs31 HB2 HR2 HC2
          go_wp2_with fail
          refine (same_since _ _ 156 _ _ raw _ (by omega) X31.out.own.bytes F31.out.own.bytes).mono ?_
          rintro e W32 ⟨rfl, hb32⟩
          have S32 := Lib.hid (below_chain S31.out hb32)
          have C32 := Lib.hid (C31.out.since hb32)
          have F32 := Lib.hid (F31.out.since hb32)
          clear hb32 X31 S31 C31 F31
          go_wp2_with fail
          refine (next_any 0 C32.out).mono ?_
          rw [HN0.out]
          rintro e W33 ⟨rfl, hb33⟩
          have S33 := Lib.hid (below_chain S32.out hb33.out)
          have C33 := Lib.hid (C32.out.since hb33.out)
          have F33 := Lib.hid (F32.out.since hb33.out)
          clear hb33 S32 C32 F32
          go_wp2_with fail
          refine (wear_any 0 C33.out).mono ?_
          rw [HW0.out]
          rintro e W34 ⟨rfl, hb34⟩
          have S34 := Lib.hid (below_chain S33.out hb34.out)
          have C34 := Lib.hid (C33.out.since hb34.out)
          have F34 := Lib.hid (F33.out.since hb34.out)
          clear hb34 S33 C33 F33
          go_wp2_with fail
          go_roundw
          case rel => exact ⟨i + 1, fp31, sr, by go_num, by omega, HKR, HPR, C34, F34, S34⟩
          case measure => simp [intOf]; omega
      · have hdb : (dd == 1) = false := by simpa using hd1
        by_cases hd2 : dd = 2
        · have hdb2 : (dd == 2) = true := by simpa using hd2
          clear hd1 hd2 c1 c2 c3 c4 c5
          go_wp2_with fail
          refine (erase_any b HC.out OP6).mono ?_
          rintro e WC ⟨v2, fp2, rfl, he2, hc2, hs2⟩
          obtain ⟨hk2, ho2⟩ := HK.out.erase (b := b) HB1.out
          obtain ⟨sk2, HSK⟩ : ∃ sk, sk = (s.erase b).1 := ⟨_, rfl⟩
          rw [← HSK] at hk2 ho2 hc2
          have HC2 := Lib.hid hc2
          have HK2 := Lib.hid hk2
          have HP2 : Hid (sk2.ops ≤ 2 + 2 * i + 1) := by have := HP.out; show _ ≤ _; omega
          have HR2 := Lib.hid (HR.out.step hs2)
          have HB2 := Lib.hid (hs2.below HB.out HC.out.ge HB.out.size)
          clear he2 hc2 hs2 hk2 ho2 HSK HC HR HB HK HP c0
          obtain ⟨sr, hr1, hr2, hr3⟩ := HK2.out.read
          have HR1 := Lib.hid hr1
          have HKR := Lib.hid hr2
          have HPR : Hid (sr.ops ≤ 2 + 2 * (i + 1)) := by have := HP2.out; show _ ≤ _; omega
          have OPR : sk2.ops < 1000000 := by have := HP2.out; omega
          have HN0 := Lib.hid hr2.next0
          have HW0 := Lib.hid hr2.wear0
          clear hr1 hr2 hr3
          go_wp2_with fail
          refine (read_any 0 0 HC2.out OPR).mono ?_
          rw [HR1.out]
          rintro e W31 ⟨v31, A31, n31, c31, fp31, rfl, he31, hr31, hc31, hs31⟩
          have S31 := Lib.hid (hs31.below HB2.out HC2.out.ge HB2.out.size)
          have F31 := Lib.hid (HR2.out.step hs31)
          have C31 := Lib.hid hc31
          obtain rfl : 156 = n31 := by rw [← hr31.own.len, HRL.out]
          have X31 := Lib.hid hr31
          obtain rfl := he31.nil
          clear he31
          clear hr31 hc31 hs31 HB2 HR2 HC2
          go_wp2_with fail
          refine (same_since _ _ 156 _ _ raw _ (by omega) X31.out.own.bytes F31.out.own.bytes).mono ?_
          rintro e W32 ⟨rfl, hb32⟩
          have S32 := Lib.hid (below_chain S31.out hb32)
          have C32 := Lib.hid (C31.out.since hb32)
          have F32 := Lib.hid (F31.out.since hb32)
          clear hb32 X31 S31 C31 F31
          go_wp2_with fail
          refine (next_any 0 C32.out).mono ?_
          rw [HN0.out]
          rintro e W33 ⟨rfl, hb33⟩
          have S33 := Lib.hid (below_chain S32.out hb33.out)
          have C33 := Lib.hid (C32.out.since hb33.out)
          have F33 := Lib.hid (F32.out.since hb33.out)
          clear hb33 S32 C32 F32
          go_wp2_with fail
          refine (wear_any 0 C33.out).mono ?_
          rw [HW0.out]
          rintro e W34 ⟨rfl, hb34⟩
          have S34 := Lib.hid (below_chain S33.out hb34.out)
          have C34 := Lib.hid (C33.out.since hb34.out)
          have F34 := Lib.hid (F33.out.since hb34.out)
          clear hb34 S33 C33 F33
          go_wp2_with fail
          go_roundw
          case rel => exact ⟨i + 1, fp31, sr, by go_num, by omega, HKR, HPR, C34, F34, S34⟩
          case measure => simp [intOf]; omega
        · have hdb2 : (dd == 2) = false := by simpa using hd2
          have HP2 : Hid (s.ops ≤ 2 + 2 * i + 1) := by have := HP.out; show _ ≤ _; omega
          clear hd1 hd2 c1 c2 c3 c4 c5
          obtain ⟨sr, hr1, hr2, hr3⟩ := HK.out.read
          have HR1 := Lib.hid hr1
          have HKR := Lib.hid hr2
          have HPR : Hid (sr.ops ≤ 2 + 2 * (i + 1)) := by have := HP2.out; show _ ≤ _; omega
          have OPR : s.ops < 1000000 := by have := HP2.out; omega
          have HN0 := Lib.hid hr2.next0
          have HW0 := Lib.hid hr2.wear0
          clear hr1 hr2 hr3
          go_wp2_with fail
          refine (read_any 0 0 HC.out OPR).mono ?_
          rw [HR1.out]
          rintro e W31 ⟨v31, A31, n31, c31, fp31, rfl, he31, hr31, hc31, hs31⟩
          have S31 := Lib.hid (hs31.below HB.out HC.out.ge HB.out.size)
          have F31 := Lib.hid (HR.out.step hs31)
          have C31 := Lib.hid hc31
          obtain rfl : 156 = n31 := by rw [← hr31.own.len, HRL.out]
          have X31 := Lib.hid hr31
          obtain rfl := he31.nil
          clear he31
          clear hr31 hc31 hs31 HB HR HC
          go_wp2_with fail
          refine (same_since _ _ 156 _ _ raw _ (by omega) X31.out.own.bytes F31.out.own.bytes).mono ?_
          rintro e W32 ⟨rfl, hb32⟩
          have S32 := Lib.hid (below_chain S31.out hb32)
          have C32 := Lib.hid (C31.out.since hb32)
          have F32 := Lib.hid (F31.out.since hb32)
          clear hb32 X31 S31 C31 F31
          go_wp2_with fail
          refine (next_any 0 C32.out).mono ?_
          rw [HN0.out]
          rintro e W33 ⟨rfl, hb33⟩
          have S33 := Lib.hid (below_chain S32.out hb33.out)
          have C33 := Lib.hid (C32.out.since hb33.out)
          have F33 := Lib.hid (F32.out.since hb33.out)
          clear hb33 S32 C32 F32
          go_wp2_with fail
          refine (wear_any 0 C33.out).mono ?_
          rw [HW0.out]
          rintro e W34 ⟨rfl, hb34⟩
          have S34 := Lib.hid (below_chain S33.out hb34.out)
          have C34 := Lib.hid (C33.out.since hb34.out)
          have F34 := Lib.hid (F33.out.since hb34.out)
          clear hb34 S33 C33 F33
          go_wp2_with fail
          go_roundw
          case rel => exact ⟨i + 1, fp31, sr, by go_num, by omega, HKR, HPR, C34, F34, S34⟩
          case measure => simp [intOf]; omega
    · skip
      have HB0 := HB
      obtain ⟨sl1, sl2, q, l1, l2, l3, l4, l5, l6, l7, l8⟩ := HK.out.last
      have L1 := Lib.hid l1
      have L3 := Lib.hid l3
      have L4 := Lib.hid l4
      have L5 := Lib.hid l5
      have L6 := Lib.hid l6
      have L7 := Lib.hid l7
      have L8 := Lib.hid l8
      have OL : s.ops < 1000000 := by have := HP.out; omega
      have OL1 : sl1.ops < 1000000 := by have := HP.out; omega
      clear l1 l2 l3 l4 l5 l6 l7 l8 HK HP HR HB0
      go_wp2_with fail
      refine (erase_any 0 HC.out OL).mono ?_
      rw [L1.out]
      rintro e W61 ⟨v61, fp61, rfl, he61, hc61, hs61⟩
      have S61 := Lib.hid (hs61.below HB.out HC.out.ge HB.out.size)
      have C61 := Lib.hid hc61
      obtain rfl := he61.nil
      clear he61
      clear hc61 hs61 HB HC
      go_wp2_with fail
      refine (wear_any 0 C61.out).mono ?_
      rw [L3.out]
      rintro e W62 ⟨rfl, hb62⟩
      have S62 := Lib.hid (below_chain S61.out hb62.out)
      have C62 := Lib.hid (C61.out.since hb62.out)
      clear hb62 S61 C61
      go_wp2_with fail
      refine (next_any 0 C62.out).mono ?_
      rw [L4.out]
      rintro e W63 ⟨rfl, hb63⟩
      have S63 := Lib.hid (below_chain S62.out hb63.out)
      have C63 := Lib.hid (C62.out.since hb63.out)
      clear hb63 S62 C62
      go_wp2_with fail
      refine (read_any 0 0 C63.out OL1).mono ?_
      rw [L5.out]
      rintro e W64 ⟨v64, A64, n64, c64, fp64, rfl, he64, hr64, hc64, hs64⟩
      have S64 := Lib.hid (hs64.below S63.out C63.out.ge S63.out.size)
      have C64 := Lib.hid hc64
      obtain rfl : 156 = n64 := by rw [← hr64.own.len, L6.out]
      have X64 := Lib.hid hr64
      obtain rfl := he64.nil
      clear he64
      clear hr64 hc64 hs64 S63 C63
      go_wp2_with fail
      refine (read_nil 0 0).mono ?_
      rintro e W65 ⟨v65, rfl, he65, hb65⟩
      have S65 := Lib.hid (below_chain S64.out hb65)
      have C65 := Lib.hid (C64.out.since hb65)
      have X65 := Lib.hid (X64.out.since hb65)
      have G65 := Lib.hid he65
      clear he65 hb65 S64 C64 X64
      obtain ⟨ax, hAx, hbx, hx0⟩ := X65.out.own.bytes.at_ (k := 0) (by omega)
      obtain ⟨ay, hAy, hby, hx1⟩ := X65.out.own.bytes.at_ (k := 155) (by omega)
      obtain rfl := hAx
      obtain rfl := Option.some.inj hAy
      rw [L7.out, show ax.add 0 = ax from rfl] at hx0
      rw [L8.out, add_at ax 154] at hx1
      go_wp2_with fail
      refine (err_num G65.out).mono ?_
      rintro e W66 ⟨rfl, hw66⟩
      subst hw66
      clear G65
      go_wp2_with fail
      refine (erase_nil 0).mono ?_
      rintro e W67 ⟨v67, rfl, he67, hb67⟩
      have S67 := Lib.hid (below_chain S65.out hb67)
      have C67 := Lib.hid (C65.out.since hb67)
      have G67 := Lib.hid he67
      clear he67 hb67 hx0 hx1 S65 C65
      go_wp2_with fail
      refine (err_num G67.out).mono ?_
      rintro e W68 ⟨rfl, hw68⟩
      subst hw68
      clear G67
      go_wp2_with fail
      refine (on_nil).mono ?_
      rintro e W69 ⟨rfl, hb69⟩
      have S69 := Lib.hid (below_chain S67.out hb69.out)
      have C69 := Lib.hid (C67.out.since hb69.out)
      clear hb69 S67 C67
      go_wp2_with fail
      refine (ops_nil).mono ?_
      rintro e W70 ⟨rfl, hb70⟩
      have S70 := Lib.hid (below_chain S69.out hb70.out)
      have C70 := Lib.hid (C69.out.since hb70.out)
      clear hb70 S69 C69
      go_wp2_with fail
      refine (awake_any _).mono ?_
      rintro e W71 ⟨rfl, hb71⟩
      have S71 := Lib.hid (below_chain S70.out hb71.out)
      go_wp2_with fail
      go_ret
      exact ⟨rfl, S71⟩
end Go.Proofs.Ytgamjffedlkbeaa
