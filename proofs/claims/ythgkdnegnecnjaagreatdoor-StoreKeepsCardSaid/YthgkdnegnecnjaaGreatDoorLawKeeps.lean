/- StoreKeeps: true, whatever its arguments are. Conditions: what the listed variables hold. -/
import Derived.Test.YthgkdnegnecnjaaGreatDoorKeepsM
import Derived.Test.YthgkdnegnecnjaaGreatDoorSbase
set_option linter.unusedVariables false
set_option linter.unusedSimpArgs false
set_option maxRecDepth 20000
namespace Go.Proofs.YthgkdnegnecnjaaGreatDoor
open Go.RowKit

/-- Which number the page before has. -/
def oldK : Option (Nat × Nat) → Int
  | none => -1
  | some p => pnK p
structure KpR (w W : World) (g gc stay i : Nat) (o : Int) (A : Option Addr) (n c : Nat) (fp : Nat → Prop) (s : SS) (ps : List (Nat × Nat)) (old : Option (Nat × Nat)) : Prop where
  st : StoreAt W w.heap.size fp g gc s
  ki : KI s ps old stay i
  ops : s.c.ops ≤ 2 * i
  mis : s.c.misuse = 0
  o : oldK old = o
  row : RestK intK fp W w.heap.size A n c (ps.map pnK)
  b : Below w.heap.size w W
structure KgR (w W : World) (g gc q : Nat) (A : Option Addr) (n c : Nat) (ps : List (Nat × Nat)) (fp : Nat → Prop) (s : SS) : Prop where
  st : StoreAt W w.heap.size fp g gc s
  gk : GK s ps
  on : s.c.on = true
  ops : s.c.ops ≤ q
  mis : s.c.misuse = 0
  row : RestK intK fp W w.heap.size A n c (ps.map pnK)
  b : Below w.heap.size w W
theorem pnK_at {ps : List (Nat × Nat)} {j : Nat} (h : j < ps.length) : (ps.map pnK).getD j 0 = pnK (ps.getD j (0, 0)) := by
  rw [List.getD_eq_getElem?_getD, List.getElem?_map, List.getD_eq_getElem?_getD, List.getElem?_eq_getElem h]; rfl
theorem hdV_K (j : Nat) : hdV (hdK j) = .agg #[.int .i64 1, .int .u64 (j : Int), .int .i64 (1 + (j : Int)), .int .i64 0] := by
  unfold hdK hN hdV
  dsimp only
  rw [show ((Int.toNat (1 : Int) : Nat) : Int) = 1 from rfl, show (((j : Int).toNat : Nat) : Int) = (j : Int) from rfl, show (((1 + (j : Int)).toNat : Nat) : Int) = 1 + (j : Int) by omega]; rfl
theorem start_ki (st : Nat) : KI (startS (c16 [] [])) [] none st 0 := by
  have hn : ∀ k, k < 16 → (c16 [] []).nth k = ⟨List.replicate 4 (List.replicate 156 255), 0, 0, false, false⟩ := fun k hk => Chip.fresh_nth hk
  have hm : Chip.mayNew 16 4 128 ([] : List Int) [] = true := by kernel_rfl
  have hw : (c16 [] []).Wf := Chip.fresh_wf hm []
  have hcb : CBl (c16 [] []) := fun k q hk h1 h2 => by
    rw [hn k hk]; exact getD_rep _ _ _ _ h2
  obtain ⟨s1, h1, h2⟩ := new_rd hw ⟨rfl, rfl⟩ (by kernel_rfl)
  rw [new16] at h1
  obtain rfl := (Prod.mk.inj h1).1
  refine ⟨h2.si hw hcb, ⟨rfl, rfl, fun k hk => by rw [show (startS (c16 [] [])).c.nth k = (c16 [] []).nth k from rfl, hn k hk]⟩, rfl, rfl, rfl, fun k hk => by rw [show (startS (c16 [] [])).c.nth k = (c16 [] []).nth k from rfl, hn k hk], by simp, fun k q hk => ?_, (fun p e => by cases e), (fun p e => by cases e), fun j hj => absurd hj (Nat.not_lt_zero _)⟩
  have : nee (startS (c16 [] [])) k q = false := by
    show ((List.replicate 16 (List.replicate 4 false)).getD k []).getD q false = false
    rw [getD_rep _ _ _ _ hk, List.getD_eq_getElem?_getD, List.getElem?_replicate]
    split <;> rfl
  rw [this]
  refine ⟨fun e => ?_, fun e => ?_⟩
  · cases e
  · rcases e with e | e <;> cases e
set_option maxHeartbeats 16000000 in
theorem keeps_law (x0 x1 : Int) (w : World) (hT : Tabs w) (hW : Wid w) : Calls Tryz.prog 7 #[.int .i64 x0, .int .i64 x1] w (SaysB w true) := by
  have HT := Lib.hid hT
  have HW := Lib.hid hW
  have hb0 := lowM_bd x0 13 (by omega)
  obtain ⟨st, HST⟩ : ∃ st : Nat, Hid (lowM x0 13 = (st : Int)) := ⟨(lowM x0 13).toNat, by show _ = _; omega⟩
  rw [HST.out] at hb0
  have hst12 : st ≤ 12 := by omega
  have hst9 : (st : Int) ≤ 12 := by omega
  have hb1 := lowM_bd x1 301 (by omega)
  obtain ⟨m, HM⟩ : ∃ m : Nat, Hid (lowM x1 301 = (m : Int)) := ⟨(lowM x1 301).toNat, by show _ = _; omega⟩
  rw [HM.out] at hb1
  have hm : m ≤ 300 := by omega
  have hm9 : (m : Int) ≤ 300 := by omega
  have hsum1 : -9223372036854775808 ≤ (st : Int) + (m : Int) := by omega
  have hsum2 : (st : Int) + (m : Int) ≤ 9223372036854775807 := by omega
  have HNEW := Lib.hid new16
  have HKI := Lib.hid (start_ki st)
  obtain ⟨c0, HC0⟩ : ∃ c0, Hid (c16 [] [] = c0) := ⟨_, rfl⟩
  have HMAY : Hid (mayG (geoOf c0) = true) := by show _ = _; rw [← HC0.out]; kernel_rfl
  have HON : Hid (c0.on = true) := by show _ = _; rw [← HC0.out]; rfl
  have HOP0 : Hid (c0.ops = 0) := by show _ = _; rw [← HC0.out]; rfl
  have HMI0 : Hid ((startS c0).c.misuse = 0) := by show _ = _; rw [← HC0.out]; rfl
  have HOS0 : Hid ((startS c0).c.ops = 0) := HOP0
  rw [HC0.out] at HNEW HKI
  obtain ⟨s0, HS0⟩ : ∃ s0, Hid (startS c0 = s0) := ⟨_, rfl⟩
  rw [HS0.out] at HNEW HKI HMI0 HOS0
  clear hT hW hb0 hb1 HS0
  go_enter Tryz.func7, Tryz.ntmps7
  go_wp2_with fail
  refine (low_any x0 13 (by omega) (by omega) w).mono ?_
  rw [HST.out]
  rintro e w' ⟨rfl, rfl⟩
  go_wp2_with fail
  refine (low_any x1 301 (by omega) (by omega) w).mono ?_
  rw [HM.out]
  rintro e w' ⟨rfl, rfl⟩
  go_wp2_with fail
  refine (geo16_any w).mono ?_
  rintro e W0 ⟨rfl, hb0⟩
  have S0 := Lib.hid hb0.out
  clear hb0
  go_wp2_with fail
  refine (new_yes 16 4 128 none 0 0 [] none 0 0 [] W0 (by kernel_rfl) Kind.Lie.none_ Kind.Lie.none_ (by decide) (by decide)).mono ?_
  rintro e W1 ⟨gc, fc, rfl, hc1, hb1⟩
  rw [show Chip.fresh 16 4 128 [] [] = c0 from HC0.out] at hc1
  have S1 := Lib.hid (below_chain S0.out hb1)
  have C1 := Lib.hid (hc1.elder S0.out.size)
  clear hc1 hb1 S0 HC0
  go_wp2_with fail
  refine (snew_any HMAY.out HON.out HT.out HW.out S1.out (Nat.le_refl _) (by rw [HOP0.out]; decide) C1.out).mono ?_
  rw [HNEW.out]
  rintro e W2 hn2
  obtain ⟨g, fp, rfl, hg2, hs2, hm2⟩ : ∃ g fp, e = .returned (.tuple #[.pointer (some ⟨g, 0, none⟩), .nilIface]) ∧ W1.heap.size ≤ g ∧ StoreAt W2 w.heap.size fp g gc s0 ∧ Moves W1 fc W2 fp := by
    rcases hn2 with h | h
    · exact h.2
    · exact absurd rfl h.1
  have S2 := Lib.hid (hm2.below S1.out C1.out.ge S1.out.size)
  have HR0 : Hid (∃ fp s ps old, KpR w W2 g gc st 0 (-1) none 0 0 fp s ps old) := ⟨fp, s0, [], none, hs2, HKI.out, by rw [HOS0.out]; decide, HMI0.out, rfl, ⟨Kind.Row.none_, fun b hb => by cases hb⟩, S2.out⟩
  clear hn2 hg2 hs2 hm2 S1 C1 HNEW HMAY HON HOP0 S2 HKI HMI0 HOS0
  go_wp2_with fail
  go_loopw [8, 9, 10] (fun t8 t9 t10 wr => ∃ (i n c : Nat) (A : Option Addr) (o : Int), t8 = .slice A n c ∧ t9 = .int .i64 o ∧ t10 = .int .i64 (i : Int) ∧ i ≤ st + m ∧ n ≤ 12 ∧ Hid (∃ fp s ps old, KpR w wr g gc st i o A n c fp s ps old)) (fun _ _ t10 _ => st + m - (intOf t10).toNat)
  case atStart => exact ⟨0, 0, 0, none, -1, rfl, rfl, rfl, Nat.zero_le _, by omega, HR0⟩
  case round =>
    obtain ⟨i, n, c, A, o, rfl, rfl, rfl, hi, hn12, HR⟩ := hrel
    have i0 : (0 : Int) ≤ (i : Int) := by omega
    by_cases hlt : i < st + m
    · have i1 : (i : Int) < (st : Int) + (m : Int) := by omega
      obtain ⟨fp2, s2, ps, old, Q⟩ := HR.out
      have C3 := Lib.hid Q.st
      have R3 := Lib.hid Q.row
      have S3 := Lib.hid Q.b
      have HOPS := Lib.hid Q.ops
      have HMIS := Lib.hid Q.mis
      have HO := Lib.hid Q.o
      have HSW := Lib.hid Q.ki.si.sw
      have HNL : Hid (n = min i st) := by show _ = _; have h1 := Kind.Row.len Q.row.row; have h2 := Q.ki.len; rw [List.length_map] at h1; omega
      obtain ⟨s3, s4, p, p1, p4, p5, p2, p3, p8, p7, p9, p6⟩ := Q.ki.step hst12 (by omega)
      have HP1 := Lib.hid p1
      have HP2 := Lib.hid p2
      have HP3 := Lib.hid p3
      have HP6 := Lib.hid p6
      have HCO : Hid (s4.c.ops ≤ 2 * (i + 1)) := by show _ ≤ _; rw [p7]; have := HOPS.out; omega
      have HCM : Hid (s4.c.misuse = 0) := by show _ = _; rw [p7, p9]; exact HMIS.out
      obtain ⟨P9, HP9⟩ : ∃ P9, Hid (pnK p = P9) := ⟨_, rfl⟩
      have hP9 : 0 ≤ P9 ∧ P9 ≤ 1000 := by rw [← HP9.out]; unfold pnK pno; omega
      obtain ⟨hP0, hP1⟩ := hP9
      rw [HP9.out] at HP1
      clear Q HR p1 p2 p3 p6 p7 p8 p9 p4 p5
      go_wp2_with fail
      refine (fill_any (i : Int) 128 128 _ rfl (by omega) (by omega) (by decide)).mono ?_
      rintro e W4 ⟨A4, n4, c4, rfl, ho4, hb4⟩
      obtain rfl : 128 = n4 := by rw [← ho4.bytes.len, fillL_len]
      have S4 := Lib.hid (below_chain S3.out hb4)
      have C4 := Lib.hid (C3.out.since hb4)
      have R4 := Lib.hid (R3.out.since hb4)
      have O4 := Lib.hid ho4
      clear hb4 ho4 S3 C3 R3
      go_wp2_with fail
      refine (put_any 1 (i : Int) (1 + (i : Int)) 0 A4 128 c4 (fillL (i : Int) 128) (HT.out.since S4.out) (HW.out.since S4.out) O4.out.bytes (by decide) (by omega) (by omega) HSW.out (by have := HOPS.out; omega) C4.out).mono ?_
      rw [HP1.out]
      rintro e W5 ⟨v5, fp5, rfl, he5, hs5, hm5⟩
      obtain rfl := he5.nil
      have S5 := Lib.hid (hm5.below S4.out C4.out.ge S4.out.size)
      have C5 := Lib.hid hs5
      have R5 := Lib.hid (R4.out.step hm5)
      clear he5 hs5 hm5 S4 C4 O4 R4 HP1 HSW
      have ho0 : old = none ∨ ∃ k, old = some k := by
        cases old with
        | none => exact Or.inl rfl
        | some kr => exact Or.inr ⟨kr, rfl⟩
      -- the page before is dropped, if there is one
      rcases ho0 with rfl | ⟨k, rfl⟩
      · obtain rfl : (-1 : Int) = o := HO.out
        obtain rfl : s4 = s3 := HP2.out rfl
        have S6 := S5
        have C6 := C5
        have R6 := R5
        clear S5 C5 R5 HP2 HP3
        by_cases hst : i < st
        · have hst1 : (i : Int) < (st : Int) := by omega
          have HK7 : Hid (KI s4 (ps ++ [p]) none st (i + 1)) := by have := HP6.out; rw [if_pos hst] at this; exact this
          obtain ⟨A8, c8, W8, hr8, hk8, ht8⟩ := R6.out.append S6.out.size C6.out.lt P9 ⟨by omega, by omega⟩ #[.int .i64 P9] rfl (by have := HNL.out; omega)
          have R8 := Lib.hid hr8
          have HR9 : Hid (∃ fp s ps old, KpR w W8 g gc st (i + 1) (-1) A8 (n + 1) c8 fp s ps old) := by
            refine ⟨_, s4, ps ++ [p], none, C6.out.keep ht8 (fun b h1 h2 => R6.out.safe b h1 h2), HK7.out, HCO.out, HCM.out, rfl, ?_, ht8.chain S6.out (fun b hb => Row.blk_ge R6.out.row b hb) S6.out.size⟩
            rw [List.map_append, List.map_singleton, HP9.out]
            exact hk8
          clear hr8 hk8 ht8 C6 R6 S6 HP6 HK7
          go_wp2_with (at_builtin; refine wpList_append_run rfl (.tmp 73) (.tmp 75) 22 rfl rfl rfl R8.out ?_)
          go_roundw
          case rel => exact ⟨i + 1, n + 1, c8, A8, -1, rfl, rfl, by go_num, by omega, by have := HNL.out; omega, HR9⟩
          case measure => simp [intOf]; omega
        · have hst1 : ¬ (i : Int) < (st : Int) := by omega
          have HK7 : Hid (KI s4 ps (some p) st (i + 1)) := by have := HP6.out; rw [if_neg hst] at this; exact this
          have HR9 : Hid (∃ fp s ps old, KpR w W5 g gc st (i + 1) P9 A n c fp s ps old) := ⟨_, s4, ps, some p, C6.out, HK7.out, HCO.out, HCM.out, HP9.out, R6.out, S6.out⟩
          clear C6 R6 S6 HP6 HK7
          go_wp2_with fail
          go_roundw
          case rel => exact ⟨i + 1, n, c, A, P9, rfl, rfl, by go_num, by omega, hn12, HR9⟩
          case measure => simp [intOf]; omega
      · have hd0 := HP3.out k rfl
        obtain rfl : pnK k = o := HO.out
        obtain ⟨o9, HO9⟩ : ∃ o9, Hid (pnK k = o9) := ⟨_, rfl⟩
        have ho9 : (0 : Int) ≤ o9 := by rw [← HO9.out]; unfold pnK pno; omega
        rw [HO9.out] at hd0 ⊢
        have CD := Lib.hid (sdrop_any o9 C5.out)
        rw [hd0] at CD
        clear hd0 HP2 HP3 HO HO9
        go_wp2_with fail
        refine CD.out.mono ?_
        rintro e W6 ⟨v6, fp6, rfl, he6, hs6, hm6⟩
        obtain rfl := he6.nil
        have S6 := Lib.hid (hm6.below S5.out C5.out.ge S5.out.size)
        have C6 := Lib.hid hs6
        have R6 := Lib.hid (R5.out.step hm6)
        clear he6 hs6 hm6 S5 C5 R5 CD
        by_cases hst : i < st
        · have hst1 : (i : Int) < (st : Int) := by omega
          have HK7 : Hid (KI s4 (ps ++ [p]) none st (i + 1)) := by have := HP6.out; rw [if_pos hst] at this; exact this
          obtain ⟨A8, c8, W8, hr8, hk8, ht8⟩ := R6.out.append S6.out.size C6.out.lt P9 ⟨by omega, by omega⟩ #[.int .i64 P9] rfl (by have := HNL.out; omega)
          have R8 := Lib.hid hr8
          have HR9 : Hid (∃ fp s ps old, KpR w W8 g gc st (i + 1) (-1) A8 (n + 1) c8 fp s ps old) := by
            refine ⟨_, s4, ps ++ [p], none, C6.out.keep ht8 (fun b h1 h2 => R6.out.safe b h1 h2), HK7.out, HCO.out, HCM.out, rfl, ?_, ht8.chain S6.out (fun b hb => Row.blk_ge R6.out.row b hb) S6.out.size⟩
            rw [List.map_append, List.map_singleton, HP9.out]
            exact hk8
          clear hr8 hk8 ht8 C6 R6 S6 HP6 HK7
          go_wp2_with (at_builtin; refine wpList_append_run rfl (.tmp 73) (.tmp 75) 22 rfl rfl rfl R8.out ?_)
          go_roundw
          case rel => exact ⟨i + 1, n + 1, c8, A8, -1, rfl, rfl, by go_num, by omega, by have := HNL.out; omega, HR9⟩
          case measure => simp [intOf]; omega
        · have hst1 : ¬ (i : Int) < (st : Int) := by omega
          have HK7 : Hid (KI s4 ps (some p) st (i + 1)) := by have := HP6.out; rw [if_neg hst] at this; exact this
          have HR9 : Hid (∃ fp s ps old, KpR w W6 g gc st (i + 1) P9 A n c fp s ps old) := ⟨_, s4, ps, some p, C6.out, HK7.out, HCO.out, HCM.out, HP9.out, R6.out, S6.out⟩
          clear C6 R6 S6 HP6 HK7
          go_wp2_with fail
          go_roundw
          case rel => exact ⟨i + 1, n, c, A, P9, rfl, rfl, by go_num, by omega, hn12, HR9⟩
          case measure => simp [intOf]; omega

    · have i1 : ¬ (i : Int) < (st : Int) + (m : Int) := by omega
      obtain ⟨fp2, s2, ps, old, Q⟩ := HR.out
      have hlen : ps.length = n := by have := Kind.Row.len Q.row.row; rwa [List.length_map] at this
      have HLEN := Lib.hid hlen
      have HR1 : Hid (∃ fp s, KgR w wr g gc 1000 A n c ps fp s) := ⟨fp2, s2, Q.st, Q.ki.gk hst12, Q.ki.nm.on, by have := Q.ops; omega, Q.mis, Q.row, Q.b⟩
      clear Q HR hlen
      have n0 : (0 : Int) ≤ (n : Int) := by omega
      go_wp2_with fail
      go_loopw [6, 13] (fun t6 t13 wq => ∃ (r gs : Nat), t6 = .pointer (some ⟨gs, 0, none⟩) ∧ t13 = .int .i64 (r : Int) ∧ r ≤ 2 ∧ Hid (∃ fp s, KgR w wq gs gc (1000 + 200 * r) A n c ps fp s)) (fun _ t13 _ => 2 - (intOf t13).toNat)
      case atStart => exact ⟨0, g, rfl, rfl, by omega, HR1⟩
      case round =>
        obtain ⟨r, gs, rfl, rfl, hr, HG⟩ := hrel
        have r0 : (0 : Int) ≤ (r : Int) := by omega
        by_cases hr2 : r < 2
        · have r1 : (r : Int) < 2 := by omega
          go_wp2_with fail
          go_loopw [14] (fun t14 wz => ∃ (j : Nat), t14 = .int .i64 (j : Int) ∧ j ≤ n ∧ Hid (∃ fp s, KgR w wz gs gc (1000 + 200 * r + j) A n c ps fp s)) (fun t14 _ => n - (intOf t14).toNat)
          case atStart => exact ⟨0, rfl, Nat.zero_le _, HG⟩
          case round =>
            obtain ⟨j, rfl, hj, HJ⟩ := hrel
            have j0 : (0 : Int) ≤ (j : Int) := by omega
            by_cases hjn : j < n
            · have j1 : (j : Int) < (n : Int) := by omega
              obtain ⟨fp3, s3, Q⟩ := HJ.out
              have C6 := Lib.hid Q.st
              have R6 := Lib.hid Q.row
              have S6 := Lib.hid Q.b
              have HOPS := Lib.hid Q.ops
              have HMIS := Lib.hid Q.mis
              have HONN := Lib.hid Q.on
              obtain ⟨hget, hgk⟩ := Q.gk.get Q.on (j := j) (by rw [HLEN.out]; exact hjn)
              have HGET := Lib.hid hget
              have HGK := Lib.hid hgk
              obtain ⟨ad, had, hblk, c0⟩ := int_at (Kind.Row.lie Q.row.row) hjn
              subst had
              rw [pnK_at (by rw [HLEN.out]; exact hjn)] at c0
              obtain ⟨P9, HP9⟩ : ∃ P9, Hid (pnK (ps.getD j (0, 0)) = P9) := ⟨_, rfl⟩
              rw [HP9.out] at c0 HGET
              clear Q hget hgk HP9
              have CG := Lib.hid (sget_any P9 HT.out HW.out S6.out (Nat.le_refl _) (by have := HOPS.out; omega) C6.out)
              rw [HGET.out] at CG
              clear HGET
              go_wp2_with fail
              clear c0
              refine CG.out.mono ?_
              rintro e W7 ⟨x7, y7, v7, fp7, rfl, he7, ⟨A7, n7, c7, rfl, hr7, rfl⟩, hs7, hm7⟩
              obtain rfl := he7.nil
              rw [hdV_K]
              have S7 := Lib.hid (hm7.below S6.out C6.out.ge S6.out.size)
              have C7 := Lib.hid hs7
              have R7 := Lib.hid (R6.out.step hm7)
              have D7 := Lib.hid hr7
              clear he7 hr7 hs7 hm7 S6 C6 R6 CG
              obtain ⟨W8, HW8⟩ : ∃ W8, Hid (W8 = W7.alloc (.cells #[.int .i64 1, .int .u64 (j : Int), .int .i64 (1 + (j : Int)), .int .i64 0] 42)) := ⟨_, rfl⟩
              have hb8 : Below W7.heap.size W7 W8 := by rw [HW8.out]; exact (Below.refl _ _).alloc (Nat.le_refl _) _
              have H8 := Lib.hid (RestC.new W7 #[.int .i64 1, .int .u64 (j : Int), .int .i64 (1 + (j : Int)), .int .i64 0] 42 C7.out.lt)
              rw [← HW8.out] at H8
              have S8 := Lib.hid (below_chain S7.out hb8)
              have C8 := Lib.hid (C7.out.since hb8)
              have R8 := Lib.hid (R7.out.since hb8)
              have D8 := Lib.hid (D7.out.since hb8)
              have p0 : W8.cell? ⟨W7.heap.size, 0, none⟩ = some (.int .i64 1) := H8.out.cell 0
              have p1 : W8.cell? ⟨W7.heap.size, 1, none⟩ = some (.int .u64 (j : Int)) := H8.out.cell 1
              have p2 : W8.cell? ⟨W7.heap.size, 2, none⟩ = some (.int .i64 (1 + (j : Int))) := H8.out.cell 2
              have p3 : W8.cell? ⟨W7.heap.size, 3, none⟩ = some (.int .i64 0) := H8.out.cell 3
              rw [HW8.out] at p0 p1 p2 p3
              have heq := run_neq_head 1 (j : Int) (1 + (j : Int)) 0 1 (j : Int) (1 + (j : Int)) 0 (W7.alloc (.cells #[.int .i64 1, .int .u64 (j : Int), .int .i64 (1 + (j : Int)), .int .i64 0] 42))
              rw [headB_self, Bool.not_true] at heq
              clear hb8 S7 C7 R7 D7
              go_wp2_with (simp only [heq])
              rw [← HW8.out]
              clear HW8 p0 p1 p2 p3 heq
              refine (fill_any (j : Int) 128 128 _ rfl (by omega) (by omega) (by decide)).mono ?_
              rintro e Wa ⟨Aa, na, ca, rfl, hoa, hba⟩
              have Sa := Lib.hid (below_chain S8.out hba)
              have Ca := Lib.hid (C8.out.since hba)
              have Ra := Lib.hid (R8.out.since hba)
              have Da := Lib.hid (D8.out.since hba)
              have Oa := Lib.hid hoa
              obtain rfl : 128 = n7 := by rw [← Da.out.own.bytes.len, fillL_len]
              obtain rfl : 128 = na := by rw [← Oa.out.bytes.len, fillL_len]
              clear hba hoa S8 C8 R8 D8 H8
              go_wp2_with fail
              refine (same_any _ _ _ _ _ _ _ _ Wa (by decide) (by decide) Da.out.own.bytes Oa.out.bytes).mono ?_
              rw [show sameB (fillL (j : Int) 128) (fillL (j : Int) 128) = true from decide_eq_true rfl]
              rintro e Wb ⟨rfl, hbb⟩
              have HRj : Hid (∃ fp s, KgR w Wb gs gc (1000 + 200 * r + (j + 1)) (some ad) n c ps fp s) := ⟨_, { s3 with c := s3.c.tick }, Ca.out.since hbb, HGK.out, HONN.out, by have := HOPS.out; show s3.c.ops + 1 ≤ _; omega, HMIS.out, Ra.out.since hbb, below_chain Sa.out hbb⟩
              clear hbb Sa Ca Ra Da Oa HGK HONN HOPS HMIS
              go_wp2_with fail
              go_roundw
              case rel => exact ⟨j + 1, by go_num, by omega, HRj⟩
              case measure => simp [intOf]; omega
            · obtain rfl : j = n := by omega
              obtain ⟨fp3, s3, Q⟩ := HJ.out
              obtain ⟨s4, hnew, hgk, hon, hmis, hops⟩ := Q.gk.lost
              obtain ⟨fc3, hc3, hf3⟩ := Q.st.chip
              have S6 := Lib.hid Q.b
              have R6 := Lib.hid Q.row
              have CL := Lib.hid (lost_ok s4 Q.gk.sw.may hnew HT.out HW.out S6.out (Nat.le_refl _) (by have := Q.ops; omega) hc3)
              have HGK := Lib.hid hgk
              have HONN := Lib.hid hon
              have HMIS : Hid (s4.c.misuse = 0) := hmis.trans Q.mis
              have HOPS : Hid (s4.c.ops ≤ 1000 + 200 * (r + 1)) := by show _ ≤ _; have := Q.ops; omega
              have HF3 := Lib.hid hf3
              have HGE := Lib.hid Q.st.ge
              clear Q hnew hgk hon hmis hops hc3 hf3 HJ
              go_wp2_with fail
              refine CL.out.mono ?_
              rintro e W7 ⟨g7, fp7, rfl, hs7, hm7⟩
              have M7 := hm7.widen HF3.out
              have HRr : Hid (∃ fp s, KgR w W7 g7 gc (1000 + 200 * (r + 1)) A j c ps fp s) := ⟨fp7, s4, hs7, HGK.out, HONN.out, HOPS.out, HMIS.out, R6.out.step M7, M7.below S6.out HGE.out S6.out.size⟩
              clear hs7 hm7 M7 CL HGK HONN HMIS HOPS HF3 HGE S6 R6
              go_wp2_with fail
              go_roundw
              case rel => exact ⟨r + 1, g7, rfl, by go_num, by omega, HRr⟩
              case measure => simp [intOf]; omega
        · obtain rfl : r = 2 := by omega
          obtain ⟨fp2, s2, Q⟩ := HG.out
          obtain ⟨fc2, hc2, _⟩ := Q.st.chip
          have CM := Lib.hid (misuse_any hc2)
          rw [Q.mis] at CM
          have S3 := Lib.hid Q.b
          clear Q hc2 HG
          go_wp2_with fail
          refine CM.out.mono ?_
          rintro e W4 ⟨rfl, hb4⟩
          have S4 := Lib.hid (below_chain S3.out hb4.out)
          clear hb4 S3 CM
          go_wp2_with fail
          refine (sawake_any W4 (HT.out.since S4.out) (HW.out.since S4.out)).mono ?_
          rintro e W5 ⟨rfl, hb5⟩
          have S5 := Lib.hid (below_chain S4.out hb5.out)
          clear hb5 S4
          go_wp2_with fail
          go_ret
          exact ⟨rfl, S5.out⟩
end Go.Proofs.YthgkdnegnecnjaaGreatDoor
