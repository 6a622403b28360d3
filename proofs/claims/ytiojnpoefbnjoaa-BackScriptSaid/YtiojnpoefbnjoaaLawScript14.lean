/- BackScript: true, whatever is asked. Conditions: the list's cells. -/
import Derived.Test.YtiojnpoefbnjoaaRefBack2_14
import Derived.Test.YtiojnpoefbnjoaaBackAwake
import Derived.Test.YtiojnpoefbnjoaaActs14
import Derived.Test.YtiojnpoefbnjoaaRunBin
import Derived.Test.YtiojnpoefbnjoaaChain
set_option linter.unusedVariables false
set_option linter.unusedSimpArgs false
namespace Go.Proofs.Ytiojnpoefbnjoaa
open Go.RowKit

def Blk3 (g gh ga : Nat) : Nat → Prop := fun b => b = g ∨ b = gh ∨ b = ga
/-- The landed back and the document's, side by side. -/
structure BR (w : World) (base : Nat) (fD : Nat → Prop) (gD g gh ga : Nat) (s r : Bk) : Prop where
  d : BkAt w base fD gD s
  k : RBack w base g gh ga r
  two : Two fD (Blk3 g gh ga)
section
variable {w w' WD : World} {base gD g gh ga : Nat} {s r s2 : Bk} {q : Int} {fD fq : Nat → Prop} {fs : List Bool} {vs : List Value}
theorem RBack.lt3 (h : RBack w base g gh ga r) : ∀ b, Blk3 g gh ga b → b < w.heap.size := fun b hb => by
  rcases hb with rfl | rfl | rfl
  · exact h.lg
  · exact h.lh
  · exact h.la
theorem RBack.ge3 (h : RBack w base g gh ga r) : ∀ b, Blk3 g gh ga b → base ≤ b := fun b hb => by
  rcases hb with rfl | rfl | rfl
  · exact h.bg
  · exact h.bh
  · exact h.ba
theorem RBack.keep3 (h : RBack w base g gh ga r) (ht : Turn fq w w') (hd : Two fq (Blk3 g gh ga)) : RBack w' base g gh ga r :=
  h.keep ht (fun e => hd g e (Or.inl rfl)) (fun e => hd gh e (Or.inr (Or.inl rfl))) (fun e => hd ga e (Or.inr (Or.inr rfl)))
theorem moves3 (ht : Turn (Blk2 gh ga) w w') : Moves w (Blk3 g gh ga) w' (Blk3 g gh ga) :=
  ⟨ht.mono fun b hb => Or.inl (Or.inr hb), fun b h => Or.inl h⟩
theorem BR.lt (h : BR w base fD gD g gh ga s r) : ∀ b, Or2 fD (Blk3 g gh ga) b → b < w.heap.size := fun b hb => hb.elim (h.d.lt b) (h.k.lt3 b)
theorem BR.ge (h : BR w base fD gD g gh ga s r) : ∀ b, Or2 fD (Blk3 g gh ga) b → base ≤ b := fun b hb => hb.elim (h.d.ge b) (h.k.ge3 b)
theorem BR.since (h : BR w base fD gD g gh ga s r) (hb : Below w.heap.size w w') : BR w' base fD gD g gh ga s r := ⟨h.d.since hb, h.k.since hb, h.two⟩
/-- What holds while both are asked, in whatever order. -/
def JB (WD : World) (base : Nat) (fD : Nat → Prop) (gD g gh ga : Nat) (s s2 : Bk) (q : Int) (fs : List Bool) (vs : List Value) (W : World) : Prop :=
  ∃ fD', BkAt W base fD' gD (if fs.getD 0 false = true then s2 else s) ∧ RBack W base g gh ga (if fs.getD 1 false = true then s2 else s) ∧ Two fD' (Blk3 g gh ga) ∧ Moves WD (Or2 fD (Blk3 g gh ga)) W (Or2 fD' (Blk3 g gh ga)) ∧ (fs.getD 0 false = true → ErrAt (Or2 fD' (Blk3 g gh ga)) W q (vs.getD 0 undef))
theorem jb_later (fs : List Bool) (vs : List Value) (x y : World) (h : JB WD base fD gD g gh ga s s2 q fs vs x) (hb : Later x y) : JB WD base fD gD g gh ga s s2 q fs vs y := by
  obtain ⟨fD', h1, h2, h3, h4, h5⟩ := h
  exact ⟨fD', h1.since hb, h2.since hb, h3, h4.trans (Moves.of_below hb), fun e => (h5 e).step (Moves.of_below hb)⟩
end
theorem run_int_load (p : Addr) (x : Int) (w : World) (hc : w.cell? p = some (.int .i64 x)) : (Instr.loadAt 3 (.pointer (some p))).run Try.prog w = .ok (.int .i64 x) w := by go_simp
theorem run_word_load (p : Addr) (x : Int) (w : World) (hc : w.cell? p = some (.int .u64 x)) : (Instr.loadAt 28 (.pointer (some p))).run Try.prog w = .ok (.int .u64 x) w := by go_simp
theorem run_bool_load (p : Addr) (x : Bool) (w : World) (hc : w.cell? p = some (.bool x)) : (Instr.loadAt 4 (.pointer (some p))).run Try.prog w = .ok (.bool x) w := by go_simp
theorem run_field_a (g k : Nat) (hk : k < 3) (w : World) : (Instr.fieldAt 30 (.pointer (some ⟨g, 0, none⟩)) k).run Try.prog w = .ok (.pointer (some ⟨g, k, none⟩)) w := by
  rcases (by omega : k = 0 ∨ k = 1 ∨ k = 2) with rfl | rfl | rfl <;> go_simp
set_option maxHeartbeats 64000000 in
set_option maxRecDepth 20000 in
theorem script_law (x : Int) (A : Option Addr) (n c : Nat) (xs : List A14) (lo up : Int) (w : World) (hn : n ≤ 9223372036854775807) (hA : act14K.Lie w w.heap.size A n xs) :
    Calls Try.prog 3 #[.int .i64 x, .slice A n c, .int .i64 lo, .int .i64 up] w (SaysB w true) := by
  have HA := Lib.hid hA
  clear hA
  by_cases h80 : 80 < n
  · go_enter Try.func3, Try.ntmps3
    go_wp2_with fail
    refine (bkawake_any _).mono ?_
    rintro e W1 ⟨rfl, hb⟩
    go_wp2_with fail
    go_ret
    exact ⟨rfl, hb⟩
  have n80 : n ≤ 80 := by omega
  clear h80 hn
  by_cases hm : mayBk x = true
  case neg =>
    have HM := Lib.hid hm
    clear hm
    go_enter Try.func3, Try.ntmps3
    go_wp2_with fail
    refine (bknew_any x _).mono ?_
    rw [if_neg HM.out]
    rintro e W1 ⟨rfl, hb1⟩
    have S1 := Lib.hid hb1
    clear hb1
    go_wp2_with fail
    refine (refbnew_any x _).mono ?_
    rintro e W2 hR
    rcases hR with ⟨_, rfl, hb2⟩ | ⟨h, _⟩
    · have S2 := Lib.hid (below_chain S1.out hb2)
      clear hb2 S1
      go_wp2_with fail
      refine (bkawake_any _).mono ?_
      rintro e W3 ⟨rfl, hb3⟩
      have S3 := Lib.hid (below_chain S2.out hb3.out)
      go_wp2_with fail
      go_ret
      exact ⟨rfl, S3⟩
    · exact absurd h HM.out
  have HM := Lib.hid hm
  obtain ⟨P, rfl⟩ : ∃ P : Nat, x = (P : Int) := ⟨x.toNat, by unfold mayBk at hm; simp at hm; omega⟩
  have hP : 1 ≤ P ∧ P ≤ 256 := by unfold mayBk at hm; simp at hm; omega
  clear hm
  go_enter Try.func3, Try.ntmps3
  go_wp2_with fail
  refine (bknew_any (P : Int) _).mono ?_
  rw [if_pos HM.out, Int.toNat_natCast]
  rintro e W1 ⟨gD, fD0, rfl, hd1, hb1⟩
  have S1 := Lib.hid hb1
  have D1 := Lib.hid hd1
  clear hb1 hd1
  go_wp2_with fail
  refine (refbnew_any (P : Int) _).mono ?_
  rintro e W2 hR
  rcases hR with ⟨h, _⟩ | ⟨_, g, gh, ga, rfl, hk, hb2⟩
  · exact absurd (h.symm.trans HM.out) (by decide)
  rw [Int.toNat_natCast] at hk
  have T2 : Hid (BR W2 w.heap.size fD0 gD g gh ga (freshBk P) (freshBk P)) := ⟨D1.out.since hb2, hk.elder S1.out.size, fun b h1 h2 => by have := D1.out.lt b h1; have := hk.ge3 b h2; omega⟩
  have S2 := Lib.hid (below_chain S1.out hb2)
  have HL0 : Hid ((freshBk P).length = P) := by show _ = _; simp [freshBk]
  clear hk hb2 D1 S1 HM
  go_wp2_with fail
  go_loopw [11] (fun t11 wr => ∃ (i : Nat) (fD : Nat → Prop) (s : Bk), t11 = .int .i64 i ∧ i ≤ n ∧ Hid (s.length = P) ∧ Hid (BR wr w.heap.size fD gD g gh ga s s) ∧ Hid (Below w.heap.size w wr)) (fun t11 _ => n - (intOf t11).toNat)
  case atStart => exact ⟨0, fD0, freshBk P, rfl, Nat.zero_le _, HL0, T2, S2⟩
  clear T2 S2 HL0
  case round =>
    obtain ⟨Wa, rfl⟩ : ∃ Wa, Wa = wr := ⟨_, rfl⟩
    obtain ⟨i, fD, s, rfl, hi, HL, HT, HS0⟩ := hrel
    have i0 : (0 : Int) ≤ (i : Int) := by omega
    by_cases hlt : i < n
    · have i1 : (i : Int) < (n : Int) := by omega
      obtain ⟨ad, had, hblk, hat⟩ := act14_at (HA.out.since HS0.out) hlt
      have HWF : Hid (A14Wf (xs.getD i A14.zero)) := HA.out.wf i
      obtain ⟨⟨xp, xa, xc⟩, HX⟩ : ∃ x, Hid (xs.getD i A14.zero = x) := ⟨_, rfl⟩
      rw [HX.out] at hat HWF
      obtain ⟨e0, e1, e2⟩ := hat
      dsimp only at e0 e1 e2
      obtain rfl := had
      obtain ⟨V1, HV1⟩ : ∃ V1, Hid (V1 = Wa.alloc (.cells #[.int .i64 xp, .int .u64 xa, .bool xc] 30)) := ⟨_, rfl⟩
      have hb1 : Below Wa.heap.size Wa V1 := by rw [HV1.out]; exact (Below.refl _ _).alloc (Nat.le_refl _) _
      have T1 := Lib.hid (HT.out.since hb1)
      have S1 := Lib.hid (below_chain HS0.out hb1)
      have X1 : Hid (RestC (Or2 fD (Blk3 g gh ga)) V1 Wa.heap.size #[.int .i64 xp, .int .u64 xa, .bool xc] 30) := by
        show RestC _ _ _ _ _; rw [HV1.out]; exact RestC.new Wa _ _ HT.out.lt
      obtain ⟨bx, HBX⟩ : ∃ bx, Hid (Wa.heap.size = bx) := ⟨_, rfl⟩
      have a0 := HWF.out.addr_lo
      have a1 := HWF.out.addr_hi
      dsimp only at a0 a1
      clear hb1 HX hblk hlt HT HS0
      go_wp2_with fail
      rw [← HV1.out, HBX.out]
      rw [HBX.out] at X1
      clear e0 e1 e2 HV1 HBX
      obtain ⟨WD, HWD⟩ : ∃ W, Hid (W = V1.drew) := ⟨_, rfl⟩
      have HDL : Below V1.heap.size V1 WD := by rw [HWD.out]; exact (Below.refl _ _).drew
      have TD := Lib.hid (T1.out.since HDL)
      have SD := Lib.hid (below_chain S1.out HDL)
      have XD := Lib.hid (X1.out.since HDL)
      clear HDL T1 S1 X1
      cases xc with
      | true =>
        obtain ⟨s2, q, HS⟩ : ∃ s2 q, Hid (clearBk s xp = (s2, q)) := ⟨_, _, rfl⟩
        have HL2 : Hid (s2.length = P) := by have := len_clearBk (s := s) (p := xp); rw [HS.out, HL.out] at this; exact this
        refine region_of_steps7 (by kernel_rfl) [some (.pointer (some ⟨bx, 2, none⟩)), some (.bool true), some (.bool true), some (.pointer (some ⟨gD, 0, none⟩)), some (.pointer (some ⟨bx, 0, none⟩)), some (.int .i64 xp), none, some (.int .i64 q), some (.pointer (some ⟨g, 0, none⟩)), some (.pointer (some ⟨bx, 0, none⟩)), some (.int .i64 xp), some (.int .i64 q), some (.bool false), some (.bool false), some (.bool false), some (.pointer (some ⟨bx, 2, none⟩)), some (.bool true), some (.bool false), some (.bool false), some undef, some undef, some undef, some undef, some undef, some undef, some undef, some undef, some undef, some undef, some undef, some undef, some undef, some undef, some (.bool false), some (.bool false)] [6, 11] [50] (JB WD w.heap.size fD gD g gh ga s s2 q) (by kernel_rfl) (by kernel_rfl) (by rw [← HWD.out]; exact ⟨fD, TD.out.d, TD.out.k, TD.out.two, Moves.refl _ _, fun e => (by cases e)⟩) ?_ ?_
        · refine Steps7.cons ?_ (Steps7.cons ?_ (Steps7.cons ?_ (Steps7.cons ?_ (Steps7.cons ?_ (Steps7.cons ?_ (Steps7.cons ?_ (Steps7.cons ?_ (Steps7.cons ?_ (Steps7.cons ?_ (Steps7.cons ?_ (Steps7.cons ?_ (Steps7.cons ?_ (Steps7.cons ?_ (Steps7.cons ?_ (Steps7.cons ?_ (Steps7.cons ?_ (Steps7.cons ?_ (Steps7.cons ?_ (Steps7.cons ?_ (Steps7.cons ?_ (Steps7.cons ?_ (Steps7.cons ?_ (Steps7.cons ?_ (Steps7.cons ?_ (Steps7.cons ?_ (Steps7.cons ?_ (Steps7.cons ?_ (Steps7.cons ?_ (Steps7.cons ?_ (Steps7.cons ?_ (Steps7.cons ?_ (Steps7.cons ?_ (Steps7.cons ?_ (Steps7.cons ?_ (Steps7.nil)))))))))))))))))))))))))))))))))))
          · intro listed a W H hj hl hd
            have t12 : a.tmps.getD 12 undef = .pointer (some ⟨bx, 0, none⟩) := (H.old 12 (by kernel_rfl)).trans rfl
            exact step7_value (i := 0) rfl rfl (run_op_fieldAddr rfl t12 (run_field_a bx 2 (by decide) W)) (calm7 (fun fs vs x y h hb => jb_later fs vs x y h hb) (by kernel_rfl) (by kernel_rfl) hj (later_refl _)) rfl
          · intro listed a W H hj hl hd
            have t44 : a.tmps.getD 44 undef = .pointer (some ⟨bx, 2, none⟩) := H.get 0 44 (by kernel_rfl) (dep_of hd 0 (by kernel_rfl)) (fun _ h => by cases h)
            exact step7_value (i := 1) rfl rfl (run_op_load rfl t44 (by obtain ⟨fD1, h1, h2, h3, h4, h5⟩ := hj; exact run_bool_load _ true W (((XD.out.step h4).cell 2).trans rfl))) (calm7 (fun fs vs x y h hb => jb_later fs vs x y h hb) (by kernel_rfl) (by kernel_rfl) hj (later_refl _)) rfl
          · intro listed a W H hj hl hd
            have t45 : a.tmps.getD 45 undef = .bool true := H.get 1 45 (by kernel_rfl) (dep_of hd 1 (by kernel_rfl)) (fun _ h => by cases h)
            exact step7_value (i := 2) rfl rfl (run_op_move rfl t45) (calm7 (fun fs vs x y h hb => jb_later fs vs x y h hb) (by kernel_rfl) (by kernel_rfl) hj (later_refl _)) rfl
          · intro listed a W H hj hl hd
            have t46 : a.tmps.getD 46 undef = .bool true := H.get 2 46 (by kernel_rfl) (dep_of hd 2 (by kernel_rfl)) (fun _ h => by cases h)
            have t9 : a.tmps.getD 9 undef = .pointer (some ⟨gD, 0, none⟩) := (H.old 9 (by kernel_rfl)).trans rfl
            exact step7_value (i := 3) rfl (wanted_at (j := 2) (d := 46) (b := true) rfl (by kernel_rfl) t46) (run_op_move rfl t9) (calm7 (fun fs vs x y h hb => jb_later fs vs x y h hb) (by kernel_rfl) (by kernel_rfl) hj (later_refl _)) rfl
          · intro listed a W H hj hl hd
            have t46 : a.tmps.getD 46 undef = .bool true := H.get 2 46 (by kernel_rfl) (dep_of hd 2 (by kernel_rfl)) (fun _ h => by cases h)
            have t12 : a.tmps.getD 12 undef = .pointer (some ⟨bx, 0, none⟩) := (H.old 12 (by kernel_rfl)).trans rfl
            exact step7_value (i := 4) rfl (wanted_at (j := 2) (d := 46) (b := true) rfl (by kernel_rfl) t46) (run_op_fieldAddr rfl t12 (run_field_a bx 0 (by decide) W)) (calm7 (fun fs vs x y h hb => jb_later fs vs x y h hb) (by kernel_rfl) (by kernel_rfl) hj (later_refl _)) rfl
          · intro listed a W H hj hl hd
            have t46 : a.tmps.getD 46 undef = .bool true := H.get 2 46 (by kernel_rfl) (dep_of hd 2 (by kernel_rfl)) (fun _ h => by cases h)
            have t48 : a.tmps.getD 48 undef = .pointer (some ⟨bx, 0, none⟩) := H.get 4 48 (by kernel_rfl) (dep_of hd 4 (by kernel_rfl)) (fun _ h => by cases h)
            exact step7_value (i := 5) rfl (wanted_at (j := 2) (d := 46) (b := true) rfl (by kernel_rfl) t46) (run_op_load rfl t48 (by obtain ⟨fD1, h1, h2, h3, h4, h5⟩ := hj; exact run_int_load _ xp W (((XD.out.step h4).cell 0).trans rfl))) (calm7 (fun fs vs x y h hb => jb_later fs vs x y h hb) (by kernel_rfl) (by kernel_rfl) hj (later_refl _)) rfl
          · intro listed a W H hj hl hd
            have t46 : a.tmps.getD 46 undef = .bool true := H.get 2 46 (by kernel_rfl) (dep_of hd 2 (by kernel_rfl)) (fun _ h => by cases h)
            have t47 : a.tmps.getD 47 undef = .pointer (some ⟨gD, 0, none⟩) := H.get 3 47 (by kernel_rfl) (dep_of hd 3 (by kernel_rfl)) (fun _ h => by cases h)
            have t49 : a.tmps.getD 49 undef = .int .i64 xp := H.get 5 49 (by kernel_rfl) (dep_of hd 5 (by kernel_rfl)) (fun _ h => by cases h)
            refine step7_call (i := 6) rfl (wanted_at (j := 2) (d := 46) (b := true) rfl (by kernel_rfl) t46) (run_op_call (vs := #[.pointer (some ⟨gD, 0, none⟩), .int .i64 xp]) Try.func10 (by kernel_rfl) (by kernel_rfl) rfl (by simp only [List.map_toArray, List.map_cons, List.map_nil]; show #[a.tmps.getD 47 undef, a.tmps.getD 49 undef] = _; rw [t47, t49])) ?_
            obtain ⟨fD1, h1, h2, h3, h4, h5⟩ := hj
            have hl0 : (flags [6, 11] listed).getD 0 false = false := hl
            rw [hl0, if_neg (by decide)] at h1
            refine (bkclear_any xp h1).mono ?_
            rw [HS.out]
            rintro e W2 ⟨v2, fD2, rfl, he, hc, hs⟩
            have h2b := h2.keep3 hs.turn h3
            refine ⟨v2, rfl, ⟨fD2, ?_, ?_, h3.left hs h2.lt3, h4.trans (hs.orL (Blk3 g gh ga)), fun _ => ?_⟩, trivial⟩
            · have e : (flags [6, 11] (listed.setIfInBounds 6 true)).getD 0 false = true := set_self7 listed 6
              rw [e, if_pos rfl]; exact hc
            · have e : (flags [6, 11] (listed.setIfInBounds 6 true)).getD 1 false = (flags [6, 11] listed).getD 1 false := getD_set_ne true (by decide)
              rw [e]; exact h2b
            · have e : (slots [50] (a.put (some 50) v2)).getD 0 undef = v2 := put_self7 a 50 v2 (by rw [H.size]; exact of_decide_eq_true (by kernel_rfl))
              have e2 := he.or_ (fq := Blk3 g gh ga) h2.lt3
              rw [← e] at e2
              exact e2
          · intro listed a W H hj hl hd
            have t46 : a.tmps.getD 46 undef = .bool true := H.get 2 46 (by kernel_rfl) (dep_of hd 2 (by kernel_rfl)) (fun _ h => by cases h)
            have d50 : listed.getD 6 false = true := dep_of hd 6 (by kernel_rfl)
            refine step7_call (i := 7) rfl (wanted_at (j := 2) (d := 46) (b := true) rfl (by kernel_rfl) t46) (run_op_call (vs := #[a.tmps.getD 50 undef]) Try.func9 (by kernel_rfl) (by kernel_rfl) rfl (by simp only [List.map_toArray, List.map_cons, List.map_nil]; show #[a.tmps.getD 50 undef] = _; rfl)) ?_
            have f0 : (flags [6, 11] listed).getD 0 false = true := done_true (dep_of hd 6 (by kernel_rfl))
            have hj0 := hj
            obtain ⟨fD1, h1, h2, h3, h4, h5⟩ := hj
            refine (err_num (h5 f0)).mono ?_
            rintro e w' ⟨rfl, rfl⟩
            exact ⟨_, rfl, (calm7 (fun fs vs x y h hb => jb_later fs vs x y h hb) (by kernel_rfl) (by kernel_rfl) hj0 (later_refl _)), rfl⟩
          · intro listed a W H hj hl hd
            have t46 : a.tmps.getD 46 undef = .bool true := H.get 2 46 (by kernel_rfl) (dep_of hd 2 (by kernel_rfl)) (fun _ h => by cases h)
            have t10 : a.tmps.getD 10 undef = .pointer (some ⟨g, 0, none⟩) := (H.old 10 (by kernel_rfl)).trans rfl
            exact step7_value (i := 8) rfl (wanted_at (j := 2) (d := 46) (b := true) rfl (by kernel_rfl) t46) (run_op_move rfl t10) (calm7 (fun fs vs x y h hb => jb_later fs vs x y h hb) (by kernel_rfl) (by kernel_rfl) hj (later_refl _)) rfl
          · intro listed a W H hj hl hd
            have t46 : a.tmps.getD 46 undef = .bool true := H.get 2 46 (by kernel_rfl) (dep_of hd 2 (by kernel_rfl)) (fun _ h => by cases h)
            have t12 : a.tmps.getD 12 undef = .pointer (some ⟨bx, 0, none⟩) := (H.old 12 (by kernel_rfl)).trans rfl
            exact step7_value (i := 9) rfl (wanted_at (j := 2) (d := 46) (b := true) rfl (by kernel_rfl) t46) (run_op_fieldAddr rfl t12 (run_field_a bx 0 (by decide) W)) (calm7 (fun fs vs x y h hb => jb_later fs vs x y h hb) (by kernel_rfl) (by kernel_rfl) hj (later_refl _)) rfl
          · intro listed a W H hj hl hd
            have t46 : a.tmps.getD 46 undef = .bool true := H.get 2 46 (by kernel_rfl) (dep_of hd 2 (by kernel_rfl)) (fun _ h => by cases h)
            have t53 : a.tmps.getD 53 undef = .pointer (some ⟨bx, 0, none⟩) := H.get 9 53 (by kernel_rfl) (dep_of hd 9 (by kernel_rfl)) (fun _ h => by cases h)
            exact step7_value (i := 10) rfl (wanted_at (j := 2) (d := 46) (b := true) rfl (by kernel_rfl) t46) (run_op_load rfl t53 (by obtain ⟨fD1, h1, h2, h3, h4, h5⟩ := hj; exact run_int_load _ xp W (((XD.out.step h4).cell 0).trans rfl))) (calm7 (fun fs vs x y h hb => jb_later fs vs x y h hb) (by kernel_rfl) (by kernel_rfl) hj (later_refl _)) rfl
          · intro listed a W H hj hl hd
            have t46 : a.tmps.getD 46 undef = .bool true := H.get 2 46 (by kernel_rfl) (dep_of hd 2 (by kernel_rfl)) (fun _ h => by cases h)
            have t52 : a.tmps.getD 52 undef = .pointer (some ⟨g, 0, none⟩) := H.get 8 52 (by kernel_rfl) (dep_of hd 8 (by kernel_rfl)) (fun _ h => by cases h)
            have t54 : a.tmps.getD 54 undef = .int .i64 xp := H.get 10 54 (by kernel_rfl) (dep_of hd 10 (by kernel_rfl)) (fun _ h => by cases h)
            refine step7_call (i := 11) rfl (wanted_at (j := 2) (d := 46) (b := true) rfl (by kernel_rfl) t46) (run_op_call (vs := #[.pointer (some ⟨g, 0, none⟩), .int .i64 xp]) Try.func11 (by kernel_rfl) (by kernel_rfl) rfl (by simp only [List.map_toArray, List.map_cons, List.map_nil]; show #[a.tmps.getD 52 undef, a.tmps.getD 54 undef] = _; rw [t52, t54])) ?_
            obtain ⟨fD1, h1, h2, h3, h4, h5⟩ := hj
            have hl0 : (flags [6, 11] listed).getD 1 false = false := hl
            rw [hl0, if_neg (by decide)] at h2
            refine (refbclear_any xp h2).mono ?_
            rw [HS.out]
            rintro e W2 ⟨rfl, hc, hs⟩
            have hs := moves3 (g := g) hs
            have h1b := h1.keep hs.turn h3.flip
            have e1 : (flags [6, 11] (listed.setIfInBounds 11 true)).getD 0 false = (flags [6, 11] listed).getD 0 false := getD_set_ne true (by decide)
            refine ⟨_, rfl, ⟨fD1, ?_, ?_, h3, h4.trans (hs.orR fD1), fun h => ?_⟩, rfl⟩
            · rw [e1]; exact h1b
            · have e : (flags [6, 11] (listed.setIfInBounds 11 true)).getD 1 false = true := set_self7 listed 11
              rw [e, if_pos rfl]; exact hc
            · have e2 : slots [50] (a.put (some 55) (.int .i64 q)) = slots [50] a := slots_put (fun k e => by cases e; rfl)
              have e3 := (h5 (e1.symm.trans h)).step (hs.orR fD1)
              rw [← e2] at e3
              exact e3
          · intro listed a W H hj hl hd
            have t46 : a.tmps.getD 46 undef = .bool true := H.get 2 46 (by kernel_rfl) (dep_of hd 2 (by kernel_rfl)) (fun _ h => by cases h)
            have t51 : a.tmps.getD 51 undef = .int .i64 q := H.get 7 51 (by kernel_rfl) (dep_of hd 7 (by kernel_rfl)) (fun _ h => by cases h)
            have t55 : a.tmps.getD 55 undef = .int .i64 q := H.get 11 55 (by kernel_rfl) (dep_of hd 11 (by kernel_rfl)) (fun _ h => by cases h)
            exact step7_value (i := 12) rfl (wanted_at (j := 2) (d := 46) (b := true) rfl (by kernel_rfl) t46) (run_op_bin rfl t51 t55 (bin_neq _ _ _ q q false (by simp))) (calm7 (fun fs vs x y h hb => jb_later fs vs x y h hb) (by kernel_rfl) (by kernel_rfl) hj (later_refl _)) rfl
          · intro listed a W H hj hl hd
            have t46 : a.tmps.getD 46 undef = .bool true := H.get 2 46 (by kernel_rfl) (dep_of hd 2 (by kernel_rfl)) (fun _ h => by cases h)
            have t56 : a.tmps.getD 56 undef = .bool false := H.get 12 56 (by kernel_rfl) (dep_of hd 12 (by kernel_rfl)) (fun _ h => by cases h)
            exact step7_value (i := 13) rfl rfl (run_op_pick rfl t46 t56) (calm7 (fun fs vs x y h hb => jb_later fs vs x y h hb) (by kernel_rfl) (by kernel_rfl) hj (later_refl _)) rfl
          · intro listed a W H hj hl hd
            have t57 : a.tmps.getD 57 undef = .bool false := H.get 13 57 (by kernel_rfl) (dep_of hd 13 (by kernel_rfl)) (fun _ h => by cases h)
            exact step7_value (i := 14) rfl rfl (run_op_move rfl t57) (calm7 (fun fs vs x y h hb => jb_later fs vs x y h hb) (by kernel_rfl) (by kernel_rfl) hj (later_refl _)) rfl
          · intro listed a W H hj hl hd
            have t58 : a.tmps.getD 58 undef = .bool false := H.get 14 58 (by kernel_rfl) (dep_of hd 14 (by kernel_rfl)) (fun _ h => by cases h)
            have t12 : a.tmps.getD 12 undef = .pointer (some ⟨bx, 0, none⟩) := (H.old 12 (by kernel_rfl)).trans rfl
            exact step7_value (i := 15) rfl (wanted_at (j := 14) (d := 58) (b := false) rfl (by kernel_rfl) t58) (run_op_fieldAddr rfl t12 (run_field_a bx 2 (by decide) W)) (calm7 (fun fs vs x y h hb => jb_later fs vs x y h hb) (by kernel_rfl) (by kernel_rfl) hj (later_refl _)) rfl
          · intro listed a W H hj hl hd
            have t58 : a.tmps.getD 58 undef = .bool false := H.get 14 58 (by kernel_rfl) (dep_of hd 14 (by kernel_rfl)) (fun _ h => by cases h)
            have t59 : a.tmps.getD 59 undef = .pointer (some ⟨bx, 2, none⟩) := H.get 15 59 (by kernel_rfl) (dep_of hd 15 (by kernel_rfl)) (fun _ h => by cases h)
            exact step7_value (i := 16) rfl (wanted_at (j := 14) (d := 58) (b := false) rfl (by kernel_rfl) t58) (run_op_load rfl t59 (by obtain ⟨fD1, h1, h2, h3, h4, h5⟩ := hj; exact run_bool_load _ true W (((XD.out.step h4).cell 2).trans rfl))) (calm7 (fun fs vs x y h hb => jb_later fs vs x y h hb) (by kernel_rfl) (by kernel_rfl) hj (later_refl _)) rfl
          · intro listed a W H hj hl hd
            have t58 : a.tmps.getD 58 undef = .bool false := H.get 14 58 (by kernel_rfl) (dep_of hd 14 (by kernel_rfl)) (fun _ h => by cases h)
            have t60 : a.tmps.getD 60 undef = .bool true := H.get 16 60 (by kernel_rfl) (dep_of hd 16 (by kernel_rfl)) (fun _ h => by cases h)
            exact step7_value (i := 17) rfl (wanted_at (j := 14) (d := 58) (b := false) rfl (by kernel_rfl) t58) (run_op_not rfl t60) (calm7 (fun fs vs x y h hb => jb_later fs vs x y h hb) (by kernel_rfl) (by kernel_rfl) hj (later_refl _)) rfl
          · intro listed a W H hj hl hd
            have t58 : a.tmps.getD 58 undef = .bool false := H.get 14 58 (by kernel_rfl) (dep_of hd 14 (by kernel_rfl)) (fun _ h => by cases h)
            have t61 : a.tmps.getD 61 undef = .bool false := H.get 17 61 (by kernel_rfl) (dep_of hd 17 (by kernel_rfl)) (fun _ h => by cases h)
            exact step7_value (i := 18) rfl (wanted_at (j := 14) (d := 58) (b := false) rfl (by kernel_rfl) t58) (run_op_move rfl t61) (calm7 (fun fs vs x y h hb => jb_later fs vs x y h hb) (by kernel_rfl) (by kernel_rfl) hj (later_refl _)) rfl
          · intro listed a W H hj hl hd
            have t62 : a.tmps.getD 62 undef = .bool false := H.get 18 62 (by kernel_rfl) (dep_of hd 18 (by kernel_rfl)) (fun _ h => by cases h)
            exact step7_skip (i := 19) rfl (unwanted_at (j := 18) (d := 62) (b := true) (c := false) rfl (by kernel_rfl) t62 rfl) (calm7 (fun fs vs x y h hb => jb_later fs vs x y h hb) (by kernel_rfl) (by kernel_rfl) hj (later_refl _)) rfl
          · intro listed a W H hj hl hd
            have t62 : a.tmps.getD 62 undef = .bool false := H.get 18 62 (by kernel_rfl) (dep_of hd 18 (by kernel_rfl)) (fun _ h => by cases h)
            exact step7_skip (i := 20) rfl (unwanted_at (j := 18) (d := 62) (b := true) (c := false) rfl (by kernel_rfl) t62 rfl) (calm7 (fun fs vs x y h hb => jb_later fs vs x y h hb) (by kernel_rfl) (by kernel_rfl) hj (later_refl _)) rfl
          · intro listed a W H hj hl hd
            have t62 : a.tmps.getD 62 undef = .bool false := H.get 18 62 (by kernel_rfl) (dep_of hd 18 (by kernel_rfl)) (fun _ h => by cases h)
            exact step7_skip (i := 21) rfl (unwanted_at (j := 18) (d := 62) (b := true) (c := false) rfl (by kernel_rfl) t62 rfl) (calm7 (fun fs vs x y h hb => jb_later fs vs x y h hb) (by kernel_rfl) (by kernel_rfl) hj (later_refl _)) rfl
          · intro listed a W H hj hl hd
            have t62 : a.tmps.getD 62 undef = .bool false := H.get 18 62 (by kernel_rfl) (dep_of hd 18 (by kernel_rfl)) (fun _ h => by cases h)
            exact step7_skip (i := 22) rfl (unwanted_at (j := 18) (d := 62) (b := true) (c := false) rfl (by kernel_rfl) t62 rfl) (calm7 (fun fs vs x y h hb => jb_later fs vs x y h hb) (by kernel_rfl) (by kernel_rfl) hj (later_refl _)) rfl
          · intro listed a W H hj hl hd
            have t62 : a.tmps.getD 62 undef = .bool false := H.get 18 62 (by kernel_rfl) (dep_of hd 18 (by kernel_rfl)) (fun _ h => by cases h)
            exact step7_skip (i := 23) rfl (unwanted_at (j := 18) (d := 62) (b := true) (c := false) rfl (by kernel_rfl) t62 rfl) (calm7 (fun fs vs x y h hb => jb_later fs vs x y h hb) (by kernel_rfl) (by kernel_rfl) hj (later_refl _)) rfl
          · intro listed a W H hj hl hd
            have t62 : a.tmps.getD 62 undef = .bool false := H.get 18 62 (by kernel_rfl) (dep_of hd 18 (by kernel_rfl)) (fun _ h => by cases h)
            exact step7_skip (i := 24) rfl (unwanted_at (j := 18) (d := 62) (b := true) (c := false) rfl (by kernel_rfl) t62 rfl) (calm7 (fun fs vs x y h hb => jb_later fs vs x y h hb) (by kernel_rfl) (by kernel_rfl) hj (later_refl _)) rfl
          · intro listed a W H hj hl hd
            have t62 : a.tmps.getD 62 undef = .bool false := H.get 18 62 (by kernel_rfl) (dep_of hd 18 (by kernel_rfl)) (fun _ h => by cases h)
            exact step7_skip (i := 25) rfl (unwanted_at (j := 18) (d := 62) (b := true) (c := false) rfl (by kernel_rfl) t62 rfl) (calm7 (fun fs vs x y h hb => jb_later fs vs x y h hb) (by kernel_rfl) (by kernel_rfl) hj (later_refl _)) rfl
          · intro listed a W H hj hl hd
            have t62 : a.tmps.getD 62 undef = .bool false := H.get 18 62 (by kernel_rfl) (dep_of hd 18 (by kernel_rfl)) (fun _ h => by cases h)
            exact step7_skip (i := 26) rfl (unwanted_at (j := 18) (d := 62) (b := true) (c := false) rfl (by kernel_rfl) t62 rfl) (calm7 (fun fs vs x y h hb => jb_later fs vs x y h hb) (by kernel_rfl) (by kernel_rfl) hj (later_refl _)) rfl
          · intro listed a W H hj hl hd
            have t62 : a.tmps.getD 62 undef = .bool false := H.get 18 62 (by kernel_rfl) (dep_of hd 18 (by kernel_rfl)) (fun _ h => by cases h)
            exact step7_skip (i := 27) rfl (unwanted_at (j := 18) (d := 62) (b := true) (c := false) rfl (by kernel_rfl) t62 rfl) (calm7 (fun fs vs x y h hb => jb_later fs vs x y h hb) (by kernel_rfl) (by kernel_rfl) hj (later_refl _)) rfl
          · intro listed a W H hj hl hd
            have t62 : a.tmps.getD 62 undef = .bool false := H.get 18 62 (by kernel_rfl) (dep_of hd 18 (by kernel_rfl)) (fun _ h => by cases h)
            exact step7_skip (i := 28) rfl (unwanted_at (j := 18) (d := 62) (b := true) (c := false) rfl (by kernel_rfl) t62 rfl) (calm7 (fun fs vs x y h hb => jb_later fs vs x y h hb) (by kernel_rfl) (by kernel_rfl) hj (later_refl _)) rfl
          · intro listed a W H hj hl hd
            have t62 : a.tmps.getD 62 undef = .bool false := H.get 18 62 (by kernel_rfl) (dep_of hd 18 (by kernel_rfl)) (fun _ h => by cases h)
            exact step7_skip (i := 29) rfl (unwanted_at (j := 18) (d := 62) (b := true) (c := false) rfl (by kernel_rfl) t62 rfl) (calm7 (fun fs vs x y h hb => jb_later fs vs x y h hb) (by kernel_rfl) (by kernel_rfl) hj (later_refl _)) rfl
          · intro listed a W H hj hl hd
            have t62 : a.tmps.getD 62 undef = .bool false := H.get 18 62 (by kernel_rfl) (dep_of hd 18 (by kernel_rfl)) (fun _ h => by cases h)
            exact step7_skip (i := 30) rfl (unwanted_at (j := 18) (d := 62) (b := true) (c := false) rfl (by kernel_rfl) t62 rfl) (calm7 (fun fs vs x y h hb => jb_later fs vs x y h hb) (by kernel_rfl) (by kernel_rfl) hj (later_refl _)) rfl
          · intro listed a W H hj hl hd
            have t62 : a.tmps.getD 62 undef = .bool false := H.get 18 62 (by kernel_rfl) (dep_of hd 18 (by kernel_rfl)) (fun _ h => by cases h)
            exact step7_skip (i := 31) rfl (unwanted_at (j := 18) (d := 62) (b := true) (c := false) rfl (by kernel_rfl) t62 rfl) (calm7 (fun fs vs x y h hb => jb_later fs vs x y h hb) (by kernel_rfl) (by kernel_rfl) hj (later_refl _)) rfl
          · intro listed a W H hj hl hd
            have t62 : a.tmps.getD 62 undef = .bool false := H.get 18 62 (by kernel_rfl) (dep_of hd 18 (by kernel_rfl)) (fun _ h => by cases h)
            exact step7_skip (i := 32) rfl (unwanted_at (j := 18) (d := 62) (b := true) (c := false) rfl (by kernel_rfl) t62 rfl) (calm7 (fun fs vs x y h hb => jb_later fs vs x y h hb) (by kernel_rfl) (by kernel_rfl) hj (later_refl _)) rfl
          · intro listed a W H hj hl hd
            have t58 : a.tmps.getD 58 undef = .bool false := H.get 14 58 (by kernel_rfl) (dep_of hd 14 (by kernel_rfl)) (fun _ h => by cases h)
            have t62 : a.tmps.getD 62 undef = .bool false := H.get 18 62 (by kernel_rfl) (dep_of hd 18 (by kernel_rfl)) (fun _ h => by cases h)
            exact step7_value (i := 33) rfl (wanted_at (j := 14) (d := 58) (b := false) rfl (by kernel_rfl) t58) (run_op_pickF rfl t62 rfl) (calm7 (fun fs vs x y h hb => jb_later fs vs x y h hb) (by kernel_rfl) (by kernel_rfl) hj (later_refl _)) rfl
          · intro listed a W H hj hl hd
            have t58 : a.tmps.getD 58 undef = .bool false := H.get 14 58 (by kernel_rfl) (dep_of hd 14 (by kernel_rfl)) (fun _ h => by cases h)
            have t77 : a.tmps.getD 77 undef = .bool false := H.get 33 77 (by kernel_rfl) (dep_of hd 33 (by kernel_rfl)) (fun _ h => by cases h)
            exact step7_value (i := 34) rfl rfl (run_op_pickF rfl t58 t77) (calm7 (fun fs vs x y h hb => jb_later fs vs x y h hb) (by kernel_rfl) (by kernel_rfl) hj (later_refl _)) rfl
        · intro a WC hdef hsz hw hall hact
          obtain ⟨u, hu⟩ : ∃ u : Nat → Value, ∀ k, a.tmps.getD k undef = u k := ⟨_, fun _ => rfl⟩
          have h78 : u 78 = .bool false := by rw [← hu]; exact hall 34 _ rfl
          simp only [hu] at hact
          have hact' : a = ([44, 45, 46, 47, 48, 49, 50, 51, 52, 53, 54, 55, 56, 57, 58, 59, 60, 61, 62, 63, 64, 65, 66, 67, 68, 69, 70, 71, 72, 73, 74, 75, 76, 77, 78] : List Nat).foldl (fun b k => b.put (some k) (u k)) _ := hact
          simp only [List.foldl] at hact'
          simp only [Act.put, List.setIfInBounds_toArray, List.set_cons_succ, List.set_cons_zero] at hact'
          have HAC := Lib.hid hact'
          have HX9 := Lib.hid hw
          clear hact hact' hall hdef hsz hw
          rw [h78] at HAC
          rw [HAC.out]
          obtain ⟨fE, k1, k2, k3, k4, _⟩ := HX9.out
          have TE : Hid (BR WC w.heap.size fE gD g gh ga s2 s2) := ⟨k1, k2, k3⟩
          have SE := Lib.hid (k4.below SD.out TD.out.ge TD.out.d.base_le)
          have XE := Lib.hid (XD.out.step k4)
          clear hu HX9 k1 k2 k3 k4 TD SD XD HWD HS HL h78
          obtain ⟨vo, HO⟩ : ∃ o, Hid (ofBk s2 xp = o) := ⟨_, rfl⟩
          have x0 : WC.cell? ⟨bx, 0, none⟩ = some (.int .i64 xp) := by rw [XE.out.cell]; rfl
          go_wp2_with fail
          clear x0
          refine (bkof_any xp TE.out.d).mono ?_
          rw [HO.out]
          rintro e W4 ⟨rfl, hb4⟩
          have T4 := Lib.hid (TE.out.since hb4.out)
          have S4 := Lib.hid (below_chain SE.out hb4.out)
          have X4 := Lib.hid (XE.out.since hb4.out)
          clear hb4 TE SE XE
          by_cases hp : xp < 0
          · have HE : Hid (vo = none) := by show _ = _; rw [← HO.out]; exact if_pos (Or.inl hp)
            obtain rfl := HE.out
            have D1 : decide ((0 : Int) ≤ xp) = false := decide_eq_false (by omega)
            simp only [Option.getD_none, Option.isSome_none]
            have x0 : W4.cell? ⟨bx, 0, none⟩ = some (.int .i64 xp) := by rw [X4.out.cell]; rfl
            have c0 := T4.out.k.c0
            have c1 := T4.out.k.c1
            rw [HL2.out] at c0 c1
            go_wp2_with fail
            go_quiet (fail)
            clear x0 c0 c1
            obtain ⟨W5, HW5⟩ : ∃ W5, Hid (W5 = W4.drewN nq) := ⟨_, rfl⟩
            rw [← HW5.out]
            have hb5 : Below W4.heap.size W4 W5 := by rw [HW5.out]; exact below_drewN (Below.refl _ _) _
            have T5 := Lib.hid (T4.out.since hb5)
            have S5 := Lib.hid (below_chain S4.out hb5)
            have X5 := Lib.hid (X4.out.since hb5)
            clear hb5 T4 S4 X4 HW5
            have x0 : W5.cell? ⟨bx, 0, none⟩ = some (.int .i64 xp) := by rw [X5.out.cell]; rfl
            have c0 := T5.out.k.c0
            have c1 := T5.out.k.c1
            rw [HL2.out] at c0 c1
            go_wp2_with fail
            go_quiet (fail)
            clear x0 c0 c1
            obtain ⟨W6, HW6⟩ : ∃ W6, Hid (W6 = W5.drewN nq) := ⟨_, rfl⟩
            rw [← HW6.out]
            have hb6 : Below W5.heap.size W5 W6 := by rw [HW6.out]; exact below_drewN (Below.refl _ _) _
            have T6 := Lib.hid (T5.out.since hb6)
            have S6 := Lib.hid (below_chain S5.out hb6)
            clear hb6 T5 S5 X5 HW6
            go_wp2_with fail
            refine (bkpages_any T6.out.d).mono ?_
            rintro e W7 ⟨A7, n7, c7, rfl, hi7, hb7⟩
            have HN7 : Hid ((pagesBk s2).length = n7) := hi7.out.len
            have hn7 : n7 ≤ 256 := by have := pages_len_le (s := s2); rw [HN7.out, HL2.out] at this; omega
            have T7 := Lib.hid (T6.out.since hb7.out)
            have P7 := Lib.hid (hi7.out)
            have B7 := hb7
            have hz7 : W6.heap.size ≤ W7.heap.size := hb7.out.size
            clear hi7 hb7
            go_wp2_with fail
            refine (bkrange_any lo up T7.out.d).mono ?_
            rintro e W8 ⟨A8, n8, c8, rfl, hi8, hb8⟩
            have HN8 : Hid ((rangeBk s2 lo up).length = n8) := hi8.out.len
            have hn8 : n8 ≤ 256 := by have := range_len_le (s := s2) (lo := lo) (hi := up); rw [HN8.out, HL2.out] at this; omega
            have hlt7 : Hid (∀ b, (Value.slice A7 n7 c7).ownBlock = some b → b < W7.heap.size) := P7.out.block_lt
            have T8 := Lib.hid (T7.out.since hb8.out)
            have P8 := Lib.hid (P7.out.since hb8.out)
            have Q8 := Lib.hid (hi8.out)
            have B8 := Lib.hid (below_chain B7.out hb8.out)
            have hz8 : W7.heap.size ≤ W8.heap.size := hb8.out.size
            clear hi8 hb8 T7 P7 B7
            go_wp2_with fail
            refine (refbpages_any T8.out.k).mono ?_
            rintro e W9 ⟨A9, n9, c9, rfl, hi9, hb9⟩
            obtain rfl : n7 = n9 := by rw [← HN7.out]; exact hi9.out.len
            have T9 := Lib.hid (T8.out.since hb9.out)
            have P9 := Lib.hid (P8.out.since hb9.out)
            have Q9 := Lib.hid (Q8.out.since hb9.out)
            have I9 := Lib.hid (hi9.out.lie)
            have B9 := Lib.hid (below_chain B8.out hb9.out)
            have hz9 := Nat.le_trans hz8 hb9.out.size
            clear hi9 hb9 T8 P8 Q8 B8
            go_wp2_with fail
            refine (sameints_yes A7 A9 n7 c7 c9 (pagesBk s2) _ (by omega) P9.out.lie I9.out).mono ?_
            rintro e W10 ⟨rfl, hb10⟩
            have T10 := Lib.hid (T9.out.since hb10)
            have P10 := Lib.hid (P9.out.since hb10)
            have Q10 := Lib.hid (Q9.out.since hb10)
            have B10 := Lib.hid (below_chain B9.out hb10)
            have hz10 := Nat.le_trans hz9 hb10.size
            clear hb10 T9 P9 Q9 B9 I9
            go_wp2_with fail
            refine (refbrange_any lo up T10.out.k).mono ?_
            rintro e W11 ⟨A11, n11, c11, rfl, hi11, hb11⟩
            obtain rfl : n8 = n11 := by rw [← HN8.out]; exact hi11.out.len
            have P11 := Lib.hid (P10.out.since hb11.out)
            have Q11 := Lib.hid (Q10.out.since hb11.out)
            have I11 := Lib.hid (hi11.out.lie)
            have B11 := Lib.hid (below_chain B10.out hb11.out)
            have hz11 := Nat.le_trans hz10 hb11.out.size
            clear hi11 hb11 T10 P10 Q10 B10
            go_wp2_with fail
            refine (samewords_yes A8 A11 n8 c8 c11 (rangeBk s2 lo up) _ (by omega) Q11.out.lie I11.out).mono ?_
            rintro e W12 ⟨rfl, hb12⟩
            have P12 := Lib.hid (P11.out.since hb12)
            have Q12 := Lib.hid (Q11.out.since hb12)
            have B12 := Lib.hid (below_chain B11.out hb12)
            have hz12 := Nat.le_trans hz11 hb12.size
            clear hb12 P11 Q11 B11 I11
            go_wp2_with fail
            refine (overints_any A7 n7 c7 _ _ _ (by omega) B12.out.size P12.out).mono ?_
            rintro e W13 ⟨rfl, hg13⟩
            have Q13 := Lib.hid (Q12.out.kept hg13 hlt7.out)
            have B13 : Hid (Below W6.heap.size W6 W13) := B12.out.grown hg13 B12.out.size fun k hk => (P12.out.row.lt k hk).1
            have hz13 : W7.heap.size ≤ W13.heap.size := Nat.le_trans hz12 hg13.size
            clear hg13 P12 Q12 B12 hlt7
            go_wp2_with fail
            refine (overwords_any A8 n8 c8 _ _ _ (by omega) hz13 Q13.out).mono ?_
            rintro e W14 ⟨rfl, hg14⟩
            have B14 : Hid (Below W6.heap.size W6 W14) := B13.out.grown hg14 B13.out.size fun k hk => Nat.le_trans hz7 (Q13.out.row.lt k hk).1
            have TF := Lib.hid (T6.out.since B14.out)
            have SF := Lib.hid (below_chain S6.out B14.out)
            clear hg14 Q13 B13 B14 T6 S6 HN7 HN8
            go_wp2_with fail
            go_roundw
            case rel => exact ⟨i + 1, fE, s2, by go_num, by omega, HL2, TF, SF⟩
            case measure => simp [intOf]; omega
          by_cases hq : (P : Int) ≤ xp
          · have HE : Hid (vo = none) := by show _ = _; rw [← HO.out]; exact if_pos (Or.inr (by rw [HL2.out]; exact hq))
            obtain rfl := HE.out
            have D1 : decide ((0 : Int) ≤ xp) = true := decide_eq_true (by omega)
            have D2 : decide (xp < (P : Int)) = false := decide_eq_false (by omega)
            simp only [Option.getD_none, Option.isSome_none]
            have x0 : W4.cell? ⟨bx, 0, none⟩ = some (.int .i64 xp) := by rw [X4.out.cell]; rfl
            have c0 := T4.out.k.c0
            have c1 := T4.out.k.c1
            rw [HL2.out] at c0 c1
            go_wp2_with fail
            go_quiet (fail)
            clear x0 c0 c1
            obtain ⟨W5, HW5⟩ : ∃ W5, Hid (W5 = W4.drewN nq) := ⟨_, rfl⟩
            rw [← HW5.out]
            have hb5 : Below W4.heap.size W4 W5 := by rw [HW5.out]; exact below_drewN (Below.refl _ _) _
            have T5 := Lib.hid (T4.out.since hb5)
            have S5 := Lib.hid (below_chain S4.out hb5)
            have X5 := Lib.hid (X4.out.since hb5)
            clear hb5 T4 S4 X4 HW5
            have x0 : W5.cell? ⟨bx, 0, none⟩ = some (.int .i64 xp) := by rw [X5.out.cell]; rfl
            have c0 := T5.out.k.c0
            have c1 := T5.out.k.c1
            rw [HL2.out] at c0 c1
            go_wp2_with fail
            go_quiet (fail)
            clear x0 c0 c1
            obtain ⟨W6, HW6⟩ : ∃ W6, Hid (W6 = W5.drewN nq) := ⟨_, rfl⟩
            rw [← HW6.out]
            have hb6 : Below W5.heap.size W5 W6 := by rw [HW6.out]; exact below_drewN (Below.refl _ _) _
            have T6 := Lib.hid (T5.out.since hb6)
            have S6 := Lib.hid (below_chain S5.out hb6)
            clear hb6 T5 S5 X5 HW6
            go_wp2_with fail
            refine (bkpages_any T6.out.d).mono ?_
            rintro e W7 ⟨A7, n7, c7, rfl, hi7, hb7⟩
            have HN7 : Hid ((pagesBk s2).length = n7) := hi7.out.len
            have hn7 : n7 ≤ 256 := by have := pages_len_le (s := s2); rw [HN7.out, HL2.out] at this; omega
            have T7 := Lib.hid (T6.out.since hb7.out)
            have P7 := Lib.hid (hi7.out)
            have B7 := hb7
            have hz7 : W6.heap.size ≤ W7.heap.size := hb7.out.size
            clear hi7 hb7
            go_wp2_with fail
            refine (bkrange_any lo up T7.out.d).mono ?_
            rintro e W8 ⟨A8, n8, c8, rfl, hi8, hb8⟩
            have HN8 : Hid ((rangeBk s2 lo up).length = n8) := hi8.out.len
            have hn8 : n8 ≤ 256 := by have := range_len_le (s := s2) (lo := lo) (hi := up); rw [HN8.out, HL2.out] at this; omega
            have hlt7 : Hid (∀ b, (Value.slice A7 n7 c7).ownBlock = some b → b < W7.heap.size) := P7.out.block_lt
            have T8 := Lib.hid (T7.out.since hb8.out)
            have P8 := Lib.hid (P7.out.since hb8.out)
            have Q8 := Lib.hid (hi8.out)
            have B8 := Lib.hid (below_chain B7.out hb8.out)
            have hz8 : W7.heap.size ≤ W8.heap.size := hb8.out.size
            clear hi8 hb8 T7 P7 B7
            go_wp2_with fail
            refine (refbpages_any T8.out.k).mono ?_
            rintro e W9 ⟨A9, n9, c9, rfl, hi9, hb9⟩
            obtain rfl : n7 = n9 := by rw [← HN7.out]; exact hi9.out.len
            have T9 := Lib.hid (T8.out.since hb9.out)
            have P9 := Lib.hid (P8.out.since hb9.out)
            have Q9 := Lib.hid (Q8.out.since hb9.out)
            have I9 := Lib.hid (hi9.out.lie)
            have B9 := Lib.hid (below_chain B8.out hb9.out)
            have hz9 := Nat.le_trans hz8 hb9.out.size
            clear hi9 hb9 T8 P8 Q8 B8
            go_wp2_with fail
            refine (sameints_yes A7 A9 n7 c7 c9 (pagesBk s2) _ (by omega) P9.out.lie I9.out).mono ?_
            rintro e W10 ⟨rfl, hb10⟩
            have T10 := Lib.hid (T9.out.since hb10)
            have P10 := Lib.hid (P9.out.since hb10)
            have Q10 := Lib.hid (Q9.out.since hb10)
            have B10 := Lib.hid (below_chain B9.out hb10)
            have hz10 := Nat.le_trans hz9 hb10.size
            clear hb10 T9 P9 Q9 B9 I9
            go_wp2_with fail
            refine (refbrange_any lo up T10.out.k).mono ?_
            rintro e W11 ⟨A11, n11, c11, rfl, hi11, hb11⟩
            obtain rfl : n8 = n11 := by rw [← HN8.out]; exact hi11.out.len
            have P11 := Lib.hid (P10.out.since hb11.out)
            have Q11 := Lib.hid (Q10.out.since hb11.out)
            have I11 := Lib.hid (hi11.out.lie)
            have B11 := Lib.hid (below_chain B10.out hb11.out)
            have hz11 := Nat.le_trans hz10 hb11.out.size
            clear hi11 hb11 T10 P10 Q10 B10
            go_wp2_with fail
            refine (samewords_yes A8 A11 n8 c8 c11 (rangeBk s2 lo up) _ (by omega) Q11.out.lie I11.out).mono ?_
            rintro e W12 ⟨rfl, hb12⟩
            have P12 := Lib.hid (P11.out.since hb12)
            have Q12 := Lib.hid (Q11.out.since hb12)
            have B12 := Lib.hid (below_chain B11.out hb12)
            have hz12 := Nat.le_trans hz11 hb12.size
            clear hb12 P11 Q11 B11 I11
            go_wp2_with fail
            refine (overints_any A7 n7 c7 _ _ _ (by omega) B12.out.size P12.out).mono ?_
            rintro e W13 ⟨rfl, hg13⟩
            have Q13 := Lib.hid (Q12.out.kept hg13 hlt7.out)
            have B13 : Hid (Below W6.heap.size W6 W13) := B12.out.grown hg13 B12.out.size fun k hk => (P12.out.row.lt k hk).1
            have hz13 : W7.heap.size ≤ W13.heap.size := Nat.le_trans hz12 hg13.size
            clear hg13 P12 Q12 B12 hlt7
            go_wp2_with fail
            refine (overwords_any A8 n8 c8 _ _ _ (by omega) hz13 Q13.out).mono ?_
            rintro e W14 ⟨rfl, hg14⟩
            have B14 : Hid (Below W6.heap.size W6 W14) := B13.out.grown hg14 B13.out.size fun k hk => Nat.le_trans hz7 (Q13.out.row.lt k hk).1
            have TF := Lib.hid (T6.out.since B14.out)
            have SF := Lib.hid (below_chain S6.out B14.out)
            clear hg14 Q13 B13 B14 T6 S6 HN7 HN8
            go_wp2_with fail
            go_roundw
            case rel => exact ⟨i + 1, fE, s2, by go_num, by omega, HL2, TF, SF⟩
            case measure => simp [intOf]; omega
          obtain ⟨k, rfl⟩ : ∃ k : Nat, xp = (k : Int) := ⟨xp.toNat, by omega⟩
          have hk : k < P := by omega
          have k0 : (0 : Int) ≤ (k : Int) := by omega
          have k1 : (k : Int) < (P : Int) := by omega
          have HE : Hid (vo = s2.getD k none) := by show _ = _; rw [← HO.out]; exact of_at (by rw [HL2.out]; exact hk)
          clear hp hq HO
          cases vo with
          | none =>
            have HE : Hid (s2.getD k none = none) := HE.out.symm
            have D1 : decide ((0 : Int) ≤ (k : Int)) = true := decide_eq_true (by omega)
            have D2 : decide ((k : Int) < (P : Int)) = true := decide_eq_true (by omega)
            simp only [Option.getD_none, Option.isSome_none]
            have x0 : W4.cell? ⟨bx, 0, none⟩ = some (.int .i64 (k : Int)) := by rw [X4.out.cell]; rfl
            have c0 := T4.out.k.c0
            have c1 := T4.out.k.c1
            rw [HL2.out] at c0 c1
            have g6 := T4.out.k.hAt (k := k) (by rw [HL2.out]; exact hk)
            have g7 := T4.out.k.aAt (k := k) (by rw [HL2.out]; exact hk)
            rw [HE.out] at g6 g7
            have g6' : W4.cell? ⟨gh, k, none⟩ = some (.bool false) := g6
            clear g6 g7
            go_wp2_with fail
            go_quiet (fail)
            clear x0 c0 c1 g6'
            obtain ⟨W5, HW5⟩ : ∃ W5, Hid (W5 = W4.drewN nq) := ⟨_, rfl⟩
            rw [← HW5.out]
            have hb5 : Below W4.heap.size W4 W5 := by rw [HW5.out]; exact below_drewN (Below.refl _ _) _
            have T5 := Lib.hid (T4.out.since hb5)
            have S5 := Lib.hid (below_chain S4.out hb5)
            have X5 := Lib.hid (X4.out.since hb5)
            clear hb5 T4 S4 X4 HW5
            have x0 : W5.cell? ⟨bx, 0, none⟩ = some (.int .i64 (k : Int)) := by rw [X5.out.cell]; rfl
            have c0 := T5.out.k.c0
            have c1 := T5.out.k.c1
            rw [HL2.out] at c0 c1
            have g6 := T5.out.k.hAt (k := k) (by rw [HL2.out]; exact hk)
            have g7 := T5.out.k.aAt (k := k) (by rw [HL2.out]; exact hk)
            rw [HE.out] at g6 g7
            have g6' : W5.cell? ⟨gh, k, none⟩ = some (.bool false) := g6
            clear g6 g7
            go_wp2_with fail
            go_quiet (fail)
            clear x0 c0 c1 g6'
            obtain ⟨W6, HW6⟩ : ∃ W6, Hid (W6 = W5.drewN nq) := ⟨_, rfl⟩
            rw [← HW6.out]
            have hb6 : Below W5.heap.size W5 W6 := by rw [HW6.out]; exact below_drewN (Below.refl _ _) _
            have T6 := Lib.hid (T5.out.since hb6)
            have S6 := Lib.hid (below_chain S5.out hb6)
            clear hb6 T5 S5 X5 HW6
            go_wp2_with fail
            refine (bkpages_any T6.out.d).mono ?_
            rintro e W7 ⟨A7, n7, c7, rfl, hi7, hb7⟩
            have HN7 : Hid ((pagesBk s2).length = n7) := hi7.out.len
            have hn7 : n7 ≤ 256 := by have := pages_len_le (s := s2); rw [HN7.out, HL2.out] at this; omega
            have T7 := Lib.hid (T6.out.since hb7.out)
            have P7 := Lib.hid (hi7.out)
            have B7 := hb7
            have hz7 : W6.heap.size ≤ W7.heap.size := hb7.out.size
            clear hi7 hb7
            go_wp2_with fail
            refine (bkrange_any lo up T7.out.d).mono ?_
            rintro e W8 ⟨A8, n8, c8, rfl, hi8, hb8⟩
            have HN8 : Hid ((rangeBk s2 lo up).length = n8) := hi8.out.len
            have hn8 : n8 ≤ 256 := by have := range_len_le (s := s2) (lo := lo) (hi := up); rw [HN8.out, HL2.out] at this; omega
            have hlt7 : Hid (∀ b, (Value.slice A7 n7 c7).ownBlock = some b → b < W7.heap.size) := P7.out.block_lt
            have T8 := Lib.hid (T7.out.since hb8.out)
            have P8 := Lib.hid (P7.out.since hb8.out)
            have Q8 := Lib.hid (hi8.out)
            have B8 := Lib.hid (below_chain B7.out hb8.out)
            have hz8 : W7.heap.size ≤ W8.heap.size := hb8.out.size
            clear hi8 hb8 T7 P7 B7
            go_wp2_with fail
            refine (refbpages_any T8.out.k).mono ?_
            rintro e W9 ⟨A9, n9, c9, rfl, hi9, hb9⟩
            obtain rfl : n7 = n9 := by rw [← HN7.out]; exact hi9.out.len
            have T9 := Lib.hid (T8.out.since hb9.out)
            have P9 := Lib.hid (P8.out.since hb9.out)
            have Q9 := Lib.hid (Q8.out.since hb9.out)
            have I9 := Lib.hid (hi9.out.lie)
            have B9 := Lib.hid (below_chain B8.out hb9.out)
            have hz9 := Nat.le_trans hz8 hb9.out.size
            clear hi9 hb9 T8 P8 Q8 B8
            go_wp2_with fail
            refine (sameints_yes A7 A9 n7 c7 c9 (pagesBk s2) _ (by omega) P9.out.lie I9.out).mono ?_
            rintro e W10 ⟨rfl, hb10⟩
            have T10 := Lib.hid (T9.out.since hb10)
            have P10 := Lib.hid (P9.out.since hb10)
            have Q10 := Lib.hid (Q9.out.since hb10)
            have B10 := Lib.hid (below_chain B9.out hb10)
            have hz10 := Nat.le_trans hz9 hb10.size
            clear hb10 T9 P9 Q9 B9 I9
            go_wp2_with fail
            refine (refbrange_any lo up T10.out.k).mono ?_
            rintro e W11 ⟨A11, n11, c11, rfl, hi11, hb11⟩
            obtain rfl : n8 = n11 := by rw [← HN8.out]; exact hi11.out.len
            have P11 := Lib.hid (P10.out.since hb11.out)
            have Q11 := Lib.hid (Q10.out.since hb11.out)
            have I11 := Lib.hid (hi11.out.lie)
            have B11 := Lib.hid (below_chain B10.out hb11.out)
            have hz11 := Nat.le_trans hz10 hb11.out.size
            clear hi11 hb11 T10 P10 Q10 B10
            go_wp2_with fail
            refine (samewords_yes A8 A11 n8 c8 c11 (rangeBk s2 lo up) _ (by omega) Q11.out.lie I11.out).mono ?_
            rintro e W12 ⟨rfl, hb12⟩
            have P12 := Lib.hid (P11.out.since hb12)
            have Q12 := Lib.hid (Q11.out.since hb12)
            have B12 := Lib.hid (below_chain B11.out hb12)
            have hz12 := Nat.le_trans hz11 hb12.size
            clear hb12 P11 Q11 B11 I11
            go_wp2_with fail
            refine (overints_any A7 n7 c7 _ _ _ (by omega) B12.out.size P12.out).mono ?_
            rintro e W13 ⟨rfl, hg13⟩
            have Q13 := Lib.hid (Q12.out.kept hg13 hlt7.out)
            have B13 : Hid (Below W6.heap.size W6 W13) := B12.out.grown hg13 B12.out.size fun k hk => (P12.out.row.lt k hk).1
            have hz13 : W7.heap.size ≤ W13.heap.size := Nat.le_trans hz12 hg13.size
            clear hg13 P12 Q12 B12 hlt7
            go_wp2_with fail
            refine (overwords_any A8 n8 c8 _ _ _ (by omega) hz13 Q13.out).mono ?_
            rintro e W14 ⟨rfl, hg14⟩
            have B14 : Hid (Below W6.heap.size W6 W14) := B13.out.grown hg14 B13.out.size fun k hk => Nat.le_trans hz7 (Q13.out.row.lt k hk).1
            have TF := Lib.hid (T6.out.since B14.out)
            have SF := Lib.hid (below_chain S6.out B14.out)
            clear hg14 Q13 B13 B14 T6 S6 HN7 HN8
            go_wp2_with fail
            go_roundw
            case rel => exact ⟨i + 1, fE, s2, by go_num, by omega, HL2, TF, SF⟩
            case measure => simp [intOf]; omega
          | some v =>
            have HE : Hid (s2.getD k none = some v) := HE.out.symm
            have D1 : decide ((0 : Int) ≤ (k : Int)) = true := decide_eq_true (by omega)
            have D2 : decide ((k : Int) < (P : Int)) = true := decide_eq_true (by omega)
            simp only [Option.getD_some, Option.isSome_some]
            have x0 : W4.cell? ⟨bx, 0, none⟩ = some (.int .i64 (k : Int)) := by rw [X4.out.cell]; rfl
            have c0 := T4.out.k.c0
            have c1 := T4.out.k.c1
            rw [HL2.out] at c0 c1
            have g6 := T4.out.k.hAt (k := k) (by rw [HL2.out]; exact hk)
            have g7 := T4.out.k.aAt (k := k) (by rw [HL2.out]; exact hk)
            rw [HE.out] at g6 g7
            have g6' : W4.cell? ⟨gh, k, none⟩ = some (.bool true) := g6
            have g7' : W4.cell? ⟨ga, k, none⟩ = some (.int .u64 v) := g7
            clear g6 g7
            go_wp2_with fail
            go_quiet (fail)
            clear x0 c0 c1 g6' g7'
            obtain ⟨W5, HW5⟩ : ∃ W5, Hid (W5 = W4.drewN nq) := ⟨_, rfl⟩
            rw [← HW5.out]
            have hb5 : Below W4.heap.size W4 W5 := by rw [HW5.out]; exact below_drewN (Below.refl _ _) _
            have T5 := Lib.hid (T4.out.since hb5)
            have S5 := Lib.hid (below_chain S4.out hb5)
            have X5 := Lib.hid (X4.out.since hb5)
            clear hb5 T4 S4 X4 HW5
            have x0 : W5.cell? ⟨bx, 0, none⟩ = some (.int .i64 (k : Int)) := by rw [X5.out.cell]; rfl
            have c0 := T5.out.k.c0
            have c1 := T5.out.k.c1
            rw [HL2.out] at c0 c1
            have g6 := T5.out.k.hAt (k := k) (by rw [HL2.out]; exact hk)
            have g7 := T5.out.k.aAt (k := k) (by rw [HL2.out]; exact hk)
            rw [HE.out] at g6 g7
            have g6' : W5.cell? ⟨gh, k, none⟩ = some (.bool true) := g6
            have g7' : W5.cell? ⟨ga, k, none⟩ = some (.int .u64 v) := g7
            clear g6 g7
            go_wp2_with fail
            go_quiet (fail)
            clear x0 c0 c1 g6' g7'
            obtain ⟨W6, HW6⟩ : ∃ W6, Hid (W6 = W5.drewN nq) := ⟨_, rfl⟩
            rw [← HW6.out]
            have hb6 : Below W5.heap.size W5 W6 := by rw [HW6.out]; exact below_drewN (Below.refl _ _) _
            have T6 := Lib.hid (T5.out.since hb6)
            have S6 := Lib.hid (below_chain S5.out hb6)
            clear hb6 T5 S5 X5 HW6
            go_wp2_with fail
            refine (bkpages_any T6.out.d).mono ?_
            rintro e W7 ⟨A7, n7, c7, rfl, hi7, hb7⟩
            have HN7 : Hid ((pagesBk s2).length = n7) := hi7.out.len
            have hn7 : n7 ≤ 256 := by have := pages_len_le (s := s2); rw [HN7.out, HL2.out] at this; omega
            have T7 := Lib.hid (T6.out.since hb7.out)
            have P7 := Lib.hid (hi7.out)
            have B7 := hb7
            have hz7 : W6.heap.size ≤ W7.heap.size := hb7.out.size
            clear hi7 hb7
            go_wp2_with fail
            refine (bkrange_any lo up T7.out.d).mono ?_
            rintro e W8 ⟨A8, n8, c8, rfl, hi8, hb8⟩
            have HN8 : Hid ((rangeBk s2 lo up).length = n8) := hi8.out.len
            have hn8 : n8 ≤ 256 := by have := range_len_le (s := s2) (lo := lo) (hi := up); rw [HN8.out, HL2.out] at this; omega
            have hlt7 : Hid (∀ b, (Value.slice A7 n7 c7).ownBlock = some b → b < W7.heap.size) := P7.out.block_lt
            have T8 := Lib.hid (T7.out.since hb8.out)
            have P8 := Lib.hid (P7.out.since hb8.out)
            have Q8 := Lib.hid (hi8.out)
            have B8 := Lib.hid (below_chain B7.out hb8.out)
            have hz8 : W7.heap.size ≤ W8.heap.size := hb8.out.size
            clear hi8 hb8 T7 P7 B7
            go_wp2_with fail
            refine (refbpages_any T8.out.k).mono ?_
            rintro e W9 ⟨A9, n9, c9, rfl, hi9, hb9⟩
            obtain rfl : n7 = n9 := by rw [← HN7.out]; exact hi9.out.len
            have T9 := Lib.hid (T8.out.since hb9.out)
            have P9 := Lib.hid (P8.out.since hb9.out)
            have Q9 := Lib.hid (Q8.out.since hb9.out)
            have I9 := Lib.hid (hi9.out.lie)
            have B9 := Lib.hid (below_chain B8.out hb9.out)
            have hz9 := Nat.le_trans hz8 hb9.out.size
            clear hi9 hb9 T8 P8 Q8 B8
            go_wp2_with fail
            refine (sameints_yes A7 A9 n7 c7 c9 (pagesBk s2) _ (by omega) P9.out.lie I9.out).mono ?_
            rintro e W10 ⟨rfl, hb10⟩
            have T10 := Lib.hid (T9.out.since hb10)
            have P10 := Lib.hid (P9.out.since hb10)
            have Q10 := Lib.hid (Q9.out.since hb10)
            have B10 := Lib.hid (below_chain B9.out hb10)
            have hz10 := Nat.le_trans hz9 hb10.size
            clear hb10 T9 P9 Q9 B9 I9
            go_wp2_with fail
            refine (refbrange_any lo up T10.out.k).mono ?_
            rintro e W11 ⟨A11, n11, c11, rfl, hi11, hb11⟩
            obtain rfl : n8 = n11 := by rw [← HN8.out]; exact hi11.out.len
            have P11 := Lib.hid (P10.out.since hb11.out)
            have Q11 := Lib.hid (Q10.out.since hb11.out)
            have I11 := Lib.hid (hi11.out.lie)
            have B11 := Lib.hid (below_chain B10.out hb11.out)
            have hz11 := Nat.le_trans hz10 hb11.out.size
            clear hi11 hb11 T10 P10 Q10 B10
            go_wp2_with fail
            refine (samewords_yes A8 A11 n8 c8 c11 (rangeBk s2 lo up) _ (by omega) Q11.out.lie I11.out).mono ?_
            rintro e W12 ⟨rfl, hb12⟩
            have P12 := Lib.hid (P11.out.since hb12)
            have Q12 := Lib.hid (Q11.out.since hb12)
            have B12 := Lib.hid (below_chain B11.out hb12)
            have hz12 := Nat.le_trans hz11 hb12.size
            clear hb12 P11 Q11 B11 I11
            go_wp2_with fail
            refine (overints_any A7 n7 c7 _ _ _ (by omega) B12.out.size P12.out).mono ?_
            rintro e W13 ⟨rfl, hg13⟩
            have Q13 := Lib.hid (Q12.out.kept hg13 hlt7.out)
            have B13 : Hid (Below W6.heap.size W6 W13) := B12.out.grown hg13 B12.out.size fun k hk => (P12.out.row.lt k hk).1
            have hz13 : W7.heap.size ≤ W13.heap.size := Nat.le_trans hz12 hg13.size
            clear hg13 P12 Q12 B12 hlt7
            go_wp2_with fail
            refine (overwords_any A8 n8 c8 _ _ _ (by omega) hz13 Q13.out).mono ?_
            rintro e W14 ⟨rfl, hg14⟩
            have B14 : Hid (Below W6.heap.size W6 W14) := B13.out.grown hg14 B13.out.size fun k hk => Nat.le_trans hz7 (Q13.out.row.lt k hk).1
            have TF := Lib.hid (T6.out.since B14.out)
            have SF := Lib.hid (below_chain S6.out B14.out)
            clear hg14 Q13 B13 B14 T6 S6 HN7 HN8
            go_wp2_with fail
            go_roundw
            case rel => exact ⟨i + 1, fE, s2, by go_num, by omega, HL2, TF, SF⟩
            case measure => simp [intOf]; omega
      | false =>
        obtain ⟨s2, q, HS⟩ : ∃ s2 q, Hid (setBk s xp xa = (s2, q)) := ⟨_, _, rfl⟩
        have HL2 : Hid (s2.length = P) := by have := len_setBk (s := s) (p := xp) (a := xa); rw [HS.out, HL.out] at this; exact this
        refine region_of_steps7 (by kernel_rfl) [some (.pointer (some ⟨bx, 2, none⟩)), some (.bool false), some (.bool false), some undef, some undef, some undef, some undef, some undef, some undef, some undef, some undef, some undef, some undef, some (.bool false), some (.bool false), some (.pointer (some ⟨bx, 2, none⟩)), some (.bool false), some (.bool true), some (.bool true), some (.pointer (some ⟨gD, 0, none⟩)), some (.pointer (some ⟨bx, 0, none⟩)), some (.int .i64 xp), some (.pointer (some ⟨bx, 1, none⟩)), some (.int .u64 xa), none, some (.int .i64 q), some (.pointer (some ⟨g, 0, none⟩)), some (.pointer (some ⟨bx, 0, none⟩)), some (.int .i64 xp), some (.pointer (some ⟨bx, 1, none⟩)), some (.int .u64 xa), some (.int .i64 q), some (.bool false), some (.bool false), some (.bool false)] [24, 31] [68] (JB WD w.heap.size fD gD g gh ga s s2 q) (by kernel_rfl) (by kernel_rfl) (by rw [← HWD.out]; exact ⟨fD, TD.out.d, TD.out.k, TD.out.two, Moves.refl _ _, fun e => (by cases e)⟩) ?_ ?_
        · refine Steps7.cons ?_ (Steps7.cons ?_ (Steps7.cons ?_ (Steps7.cons ?_ (Steps7.cons ?_ (Steps7.cons ?_ (Steps7.cons ?_ (Steps7.cons ?_ (Steps7.cons ?_ (Steps7.cons ?_ (Steps7.cons ?_ (Steps7.cons ?_ (Steps7.cons ?_ (Steps7.cons ?_ (Steps7.cons ?_ (Steps7.cons ?_ (Steps7.cons ?_ (Steps7.cons ?_ (Steps7.cons ?_ (Steps7.cons ?_ (Steps7.cons ?_ (Steps7.cons ?_ (Steps7.cons ?_ (Steps7.cons ?_ (Steps7.cons ?_ (Steps7.cons ?_ (Steps7.cons ?_ (Steps7.cons ?_ (Steps7.cons ?_ (Steps7.cons ?_ (Steps7.cons ?_ (Steps7.cons ?_ (Steps7.cons ?_ (Steps7.cons ?_ (Steps7.cons ?_ (Steps7.nil)))))))))))))))))))))))))))))))))))
          · intro listed a W H hj hl hd
            have t12 : a.tmps.getD 12 undef = .pointer (some ⟨bx, 0, none⟩) := (H.old 12 (by kernel_rfl)).trans rfl
            exact step7_value (i := 0) rfl rfl (run_op_fieldAddr rfl t12 (run_field_a bx 2 (by decide) W)) (calm7 (fun fs vs x y h hb => jb_later fs vs x y h hb) (by kernel_rfl) (by kernel_rfl) hj (later_refl _)) rfl
          · intro listed a W H hj hl hd
            have t44 : a.tmps.getD 44 undef = .pointer (some ⟨bx, 2, none⟩) := H.get 0 44 (by kernel_rfl) (dep_of hd 0 (by kernel_rfl)) (fun _ h => by cases h)
            exact step7_value (i := 1) rfl rfl (run_op_load rfl t44 (by obtain ⟨fD1, h1, h2, h3, h4, h5⟩ := hj; exact run_bool_load _ false W (((XD.out.step h4).cell 2).trans rfl))) (calm7 (fun fs vs x y h hb => jb_later fs vs x y h hb) (by kernel_rfl) (by kernel_rfl) hj (later_refl _)) rfl
          · intro listed a W H hj hl hd
            have t45 : a.tmps.getD 45 undef = .bool false := H.get 1 45 (by kernel_rfl) (dep_of hd 1 (by kernel_rfl)) (fun _ h => by cases h)
            exact step7_value (i := 2) rfl rfl (run_op_move rfl t45) (calm7 (fun fs vs x y h hb => jb_later fs vs x y h hb) (by kernel_rfl) (by kernel_rfl) hj (later_refl _)) rfl
          · intro listed a W H hj hl hd
            have t46 : a.tmps.getD 46 undef = .bool false := H.get 2 46 (by kernel_rfl) (dep_of hd 2 (by kernel_rfl)) (fun _ h => by cases h)
            exact step7_skip (i := 3) rfl (unwanted_at (j := 2) (d := 46) (b := true) (c := false) rfl (by kernel_rfl) t46 rfl) (calm7 (fun fs vs x y h hb => jb_later fs vs x y h hb) (by kernel_rfl) (by kernel_rfl) hj (later_refl _)) rfl
          · intro listed a W H hj hl hd
            have t46 : a.tmps.getD 46 undef = .bool false := H.get 2 46 (by kernel_rfl) (dep_of hd 2 (by kernel_rfl)) (fun _ h => by cases h)
            exact step7_skip (i := 4) rfl (unwanted_at (j := 2) (d := 46) (b := true) (c := false) rfl (by kernel_rfl) t46 rfl) (calm7 (fun fs vs x y h hb => jb_later fs vs x y h hb) (by kernel_rfl) (by kernel_rfl) hj (later_refl _)) rfl
          · intro listed a W H hj hl hd
            have t46 : a.tmps.getD 46 undef = .bool false := H.get 2 46 (by kernel_rfl) (dep_of hd 2 (by kernel_rfl)) (fun _ h => by cases h)
            exact step7_skip (i := 5) rfl (unwanted_at (j := 2) (d := 46) (b := true) (c := false) rfl (by kernel_rfl) t46 rfl) (calm7 (fun fs vs x y h hb => jb_later fs vs x y h hb) (by kernel_rfl) (by kernel_rfl) hj (later_refl _)) rfl
          · intro listed a W H hj hl hd
            have t46 : a.tmps.getD 46 undef = .bool false := H.get 2 46 (by kernel_rfl) (dep_of hd 2 (by kernel_rfl)) (fun _ h => by cases h)
            exact step7_skip (i := 6) rfl (unwanted_at (j := 2) (d := 46) (b := true) (c := false) rfl (by kernel_rfl) t46 rfl) (calm7 (fun fs vs x y h hb => jb_later fs vs x y h hb) (by kernel_rfl) (by kernel_rfl) hj (later_refl _)) rfl
          · intro listed a W H hj hl hd
            have t46 : a.tmps.getD 46 undef = .bool false := H.get 2 46 (by kernel_rfl) (dep_of hd 2 (by kernel_rfl)) (fun _ h => by cases h)
            exact step7_skip (i := 7) rfl (unwanted_at (j := 2) (d := 46) (b := true) (c := false) rfl (by kernel_rfl) t46 rfl) (calm7 (fun fs vs x y h hb => jb_later fs vs x y h hb) (by kernel_rfl) (by kernel_rfl) hj (later_refl _)) rfl
          · intro listed a W H hj hl hd
            have t46 : a.tmps.getD 46 undef = .bool false := H.get 2 46 (by kernel_rfl) (dep_of hd 2 (by kernel_rfl)) (fun _ h => by cases h)
            exact step7_skip (i := 8) rfl (unwanted_at (j := 2) (d := 46) (b := true) (c := false) rfl (by kernel_rfl) t46 rfl) (calm7 (fun fs vs x y h hb => jb_later fs vs x y h hb) (by kernel_rfl) (by kernel_rfl) hj (later_refl _)) rfl
          · intro listed a W H hj hl hd
            have t46 : a.tmps.getD 46 undef = .bool false := H.get 2 46 (by kernel_rfl) (dep_of hd 2 (by kernel_rfl)) (fun _ h => by cases h)
            exact step7_skip (i := 9) rfl (unwanted_at (j := 2) (d := 46) (b := true) (c := false) rfl (by kernel_rfl) t46 rfl) (calm7 (fun fs vs x y h hb => jb_later fs vs x y h hb) (by kernel_rfl) (by kernel_rfl) hj (later_refl _)) rfl
          · intro listed a W H hj hl hd
            have t46 : a.tmps.getD 46 undef = .bool false := H.get 2 46 (by kernel_rfl) (dep_of hd 2 (by kernel_rfl)) (fun _ h => by cases h)
            exact step7_skip (i := 10) rfl (unwanted_at (j := 2) (d := 46) (b := true) (c := false) rfl (by kernel_rfl) t46 rfl) (calm7 (fun fs vs x y h hb => jb_later fs vs x y h hb) (by kernel_rfl) (by kernel_rfl) hj (later_refl _)) rfl
          · intro listed a W H hj hl hd
            have t46 : a.tmps.getD 46 undef = .bool false := H.get 2 46 (by kernel_rfl) (dep_of hd 2 (by kernel_rfl)) (fun _ h => by cases h)
            exact step7_skip (i := 11) rfl (unwanted_at (j := 2) (d := 46) (b := true) (c := false) rfl (by kernel_rfl) t46 rfl) (calm7 (fun fs vs x y h hb => jb_later fs vs x y h hb) (by kernel_rfl) (by kernel_rfl) hj (later_refl _)) rfl
          · intro listed a W H hj hl hd
            have t46 : a.tmps.getD 46 undef = .bool false := H.get 2 46 (by kernel_rfl) (dep_of hd 2 (by kernel_rfl)) (fun _ h => by cases h)
            exact step7_skip (i := 12) rfl (unwanted_at (j := 2) (d := 46) (b := true) (c := false) rfl (by kernel_rfl) t46 rfl) (calm7 (fun fs vs x y h hb => jb_later fs vs x y h hb) (by kernel_rfl) (by kernel_rfl) hj (later_refl _)) rfl
          · intro listed a W H hj hl hd
            have t46 : a.tmps.getD 46 undef = .bool false := H.get 2 46 (by kernel_rfl) (dep_of hd 2 (by kernel_rfl)) (fun _ h => by cases h)
            exact step7_value (i := 13) rfl rfl (run_op_pickF rfl t46 rfl) (calm7 (fun fs vs x y h hb => jb_later fs vs x y h hb) (by kernel_rfl) (by kernel_rfl) hj (later_refl _)) rfl
          · intro listed a W H hj hl hd
            have t57 : a.tmps.getD 57 undef = .bool false := H.get 13 57 (by kernel_rfl) (dep_of hd 13 (by kernel_rfl)) (fun _ h => by cases h)
            exact step7_value (i := 14) rfl rfl (run_op_move rfl t57) (calm7 (fun fs vs x y h hb => jb_later fs vs x y h hb) (by kernel_rfl) (by kernel_rfl) hj (later_refl _)) rfl
          · intro listed a W H hj hl hd
            have t58 : a.tmps.getD 58 undef = .bool false := H.get 14 58 (by kernel_rfl) (dep_of hd 14 (by kernel_rfl)) (fun _ h => by cases h)
            have t12 : a.tmps.getD 12 undef = .pointer (some ⟨bx, 0, none⟩) := (H.old 12 (by kernel_rfl)).trans rfl
            exact step7_value (i := 15) rfl (wanted_at (j := 14) (d := 58) (b := false) rfl (by kernel_rfl) t58) (run_op_fieldAddr rfl t12 (run_field_a bx 2 (by decide) W)) (calm7 (fun fs vs x y h hb => jb_later fs vs x y h hb) (by kernel_rfl) (by kernel_rfl) hj (later_refl _)) rfl
          · intro listed a W H hj hl hd
            have t58 : a.tmps.getD 58 undef = .bool false := H.get 14 58 (by kernel_rfl) (dep_of hd 14 (by kernel_rfl)) (fun _ h => by cases h)
            have t59 : a.tmps.getD 59 undef = .pointer (some ⟨bx, 2, none⟩) := H.get 15 59 (by kernel_rfl) (dep_of hd 15 (by kernel_rfl)) (fun _ h => by cases h)
            exact step7_value (i := 16) rfl (wanted_at (j := 14) (d := 58) (b := false) rfl (by kernel_rfl) t58) (run_op_load rfl t59 (by obtain ⟨fD1, h1, h2, h3, h4, h5⟩ := hj; exact run_bool_load _ false W (((XD.out.step h4).cell 2).trans rfl))) (calm7 (fun fs vs x y h hb => jb_later fs vs x y h hb) (by kernel_rfl) (by kernel_rfl) hj (later_refl _)) rfl
          · intro listed a W H hj hl hd
            have t58 : a.tmps.getD 58 undef = .bool false := H.get 14 58 (by kernel_rfl) (dep_of hd 14 (by kernel_rfl)) (fun _ h => by cases h)
            have t60 : a.tmps.getD 60 undef = .bool false := H.get 16 60 (by kernel_rfl) (dep_of hd 16 (by kernel_rfl)) (fun _ h => by cases h)
            exact step7_value (i := 17) rfl (wanted_at (j := 14) (d := 58) (b := false) rfl (by kernel_rfl) t58) (run_op_not rfl t60) (calm7 (fun fs vs x y h hb => jb_later fs vs x y h hb) (by kernel_rfl) (by kernel_rfl) hj (later_refl _)) rfl
          · intro listed a W H hj hl hd
            have t58 : a.tmps.getD 58 undef = .bool false := H.get 14 58 (by kernel_rfl) (dep_of hd 14 (by kernel_rfl)) (fun _ h => by cases h)
            have t61 : a.tmps.getD 61 undef = .bool true := H.get 17 61 (by kernel_rfl) (dep_of hd 17 (by kernel_rfl)) (fun _ h => by cases h)
            exact step7_value (i := 18) rfl (wanted_at (j := 14) (d := 58) (b := false) rfl (by kernel_rfl) t58) (run_op_move rfl t61) (calm7 (fun fs vs x y h hb => jb_later fs vs x y h hb) (by kernel_rfl) (by kernel_rfl) hj (later_refl _)) rfl
          · intro listed a W H hj hl hd
            have t62 : a.tmps.getD 62 undef = .bool true := H.get 18 62 (by kernel_rfl) (dep_of hd 18 (by kernel_rfl)) (fun _ h => by cases h)
            have t9 : a.tmps.getD 9 undef = .pointer (some ⟨gD, 0, none⟩) := (H.old 9 (by kernel_rfl)).trans rfl
            exact step7_value (i := 19) rfl (wanted_at (j := 18) (d := 62) (b := true) rfl (by kernel_rfl) t62) (run_op_move rfl t9) (calm7 (fun fs vs x y h hb => jb_later fs vs x y h hb) (by kernel_rfl) (by kernel_rfl) hj (later_refl _)) rfl
          · intro listed a W H hj hl hd
            have t62 : a.tmps.getD 62 undef = .bool true := H.get 18 62 (by kernel_rfl) (dep_of hd 18 (by kernel_rfl)) (fun _ h => by cases h)
            have t12 : a.tmps.getD 12 undef = .pointer (some ⟨bx, 0, none⟩) := (H.old 12 (by kernel_rfl)).trans rfl
            exact step7_value (i := 20) rfl (wanted_at (j := 18) (d := 62) (b := true) rfl (by kernel_rfl) t62) (run_op_fieldAddr rfl t12 (run_field_a bx 0 (by decide) W)) (calm7 (fun fs vs x y h hb => jb_later fs vs x y h hb) (by kernel_rfl) (by kernel_rfl) hj (later_refl _)) rfl
          · intro listed a W H hj hl hd
            have t62 : a.tmps.getD 62 undef = .bool true := H.get 18 62 (by kernel_rfl) (dep_of hd 18 (by kernel_rfl)) (fun _ h => by cases h)
            have t64 : a.tmps.getD 64 undef = .pointer (some ⟨bx, 0, none⟩) := H.get 20 64 (by kernel_rfl) (dep_of hd 20 (by kernel_rfl)) (fun _ h => by cases h)
            exact step7_value (i := 21) rfl (wanted_at (j := 18) (d := 62) (b := true) rfl (by kernel_rfl) t62) (run_op_load rfl t64 (by obtain ⟨fD1, h1, h2, h3, h4, h5⟩ := hj; exact run_int_load _ xp W (((XD.out.step h4).cell 0).trans rfl))) (calm7 (fun fs vs x y h hb => jb_later fs vs x y h hb) (by kernel_rfl) (by kernel_rfl) hj (later_refl _)) rfl
          · intro listed a W H hj hl hd
            have t62 : a.tmps.getD 62 undef = .bool true := H.get 18 62 (by kernel_rfl) (dep_of hd 18 (by kernel_rfl)) (fun _ h => by cases h)
            have t12 : a.tmps.getD 12 undef = .pointer (some ⟨bx, 0, none⟩) := (H.old 12 (by kernel_rfl)).trans rfl
            exact step7_value (i := 22) rfl (wanted_at (j := 18) (d := 62) (b := true) rfl (by kernel_rfl) t62) (run_op_fieldAddr rfl t12 (run_field_a bx 1 (by decide) W)) (calm7 (fun fs vs x y h hb => jb_later fs vs x y h hb) (by kernel_rfl) (by kernel_rfl) hj (later_refl _)) rfl
          · intro listed a W H hj hl hd
            have t62 : a.tmps.getD 62 undef = .bool true := H.get 18 62 (by kernel_rfl) (dep_of hd 18 (by kernel_rfl)) (fun _ h => by cases h)
            have t66 : a.tmps.getD 66 undef = .pointer (some ⟨bx, 1, none⟩) := H.get 22 66 (by kernel_rfl) (dep_of hd 22 (by kernel_rfl)) (fun _ h => by cases h)
            exact step7_value (i := 23) rfl (wanted_at (j := 18) (d := 62) (b := true) rfl (by kernel_rfl) t62) (run_op_load rfl t66 (by obtain ⟨fD1, h1, h2, h3, h4, h5⟩ := hj; exact run_word_load _ xa W (((XD.out.step h4).cell 1).trans rfl))) (calm7 (fun fs vs x y h hb => jb_later fs vs x y h hb) (by kernel_rfl) (by kernel_rfl) hj (later_refl _)) rfl
          · intro listed a W H hj hl hd
            have t62 : a.tmps.getD 62 undef = .bool true := H.get 18 62 (by kernel_rfl) (dep_of hd 18 (by kernel_rfl)) (fun _ h => by cases h)
            have t63 : a.tmps.getD 63 undef = .pointer (some ⟨gD, 0, none⟩) := H.get 19 63 (by kernel_rfl) (dep_of hd 19 (by kernel_rfl)) (fun _ h => by cases h)
            have t65 : a.tmps.getD 65 undef = .int .i64 xp := H.get 21 65 (by kernel_rfl) (dep_of hd 21 (by kernel_rfl)) (fun _ h => by cases h)
            have t67 : a.tmps.getD 67 undef = .int .u64 xa := H.get 23 67 (by kernel_rfl) (dep_of hd 23 (by kernel_rfl)) (fun _ h => by cases h)
            refine step7_call (i := 24) rfl (wanted_at (j := 18) (d := 62) (b := true) rfl (by kernel_rfl) t62) (run_op_call (vs := #[.pointer (some ⟨gD, 0, none⟩), .int .i64 xp, .int .u64 xa]) Try.func12 (by kernel_rfl) (by kernel_rfl) rfl (by simp only [List.map_toArray, List.map_cons, List.map_nil]; show #[a.tmps.getD 63 undef, a.tmps.getD 65 undef, a.tmps.getD 67 undef] = _; rw [t63, t65, t67])) ?_
            obtain ⟨fD1, h1, h2, h3, h4, h5⟩ := hj
            have hl0 : (flags [24, 31] listed).getD 0 false = false := hl
            rw [hl0, if_neg (by decide)] at h1
            refine (bkset_any xp xa a0 a1 h1).mono ?_
            rw [HS.out]
            rintro e W2 ⟨v2, fD2, rfl, he, hc, hs⟩
            have h2b := h2.keep3 hs.turn h3
            refine ⟨v2, rfl, ⟨fD2, ?_, ?_, h3.left hs h2.lt3, h4.trans (hs.orL (Blk3 g gh ga)), fun _ => ?_⟩, trivial⟩
            · have e : (flags [24, 31] (listed.setIfInBounds 24 true)).getD 0 false = true := set_self7 listed 24
              rw [e, if_pos rfl]; exact hc
            · have e : (flags [24, 31] (listed.setIfInBounds 24 true)).getD 1 false = (flags [24, 31] listed).getD 1 false := getD_set_ne true (by decide)
              rw [e]; exact h2b
            · have e : (slots [68] (a.put (some 68) v2)).getD 0 undef = v2 := put_self7 a 68 v2 (by rw [H.size]; exact of_decide_eq_true (by kernel_rfl))
              have e2 := he.or_ (fq := Blk3 g gh ga) h2.lt3
              rw [← e] at e2
              exact e2
          · intro listed a W H hj hl hd
            have t62 : a.tmps.getD 62 undef = .bool true := H.get 18 62 (by kernel_rfl) (dep_of hd 18 (by kernel_rfl)) (fun _ h => by cases h)
            have d68 : listed.getD 24 false = true := dep_of hd 24 (by kernel_rfl)
            refine step7_call (i := 25) rfl (wanted_at (j := 18) (d := 62) (b := true) rfl (by kernel_rfl) t62) (run_op_call (vs := #[a.tmps.getD 68 undef]) Try.func9 (by kernel_rfl) (by kernel_rfl) rfl (by simp only [List.map_toArray, List.map_cons, List.map_nil]; show #[a.tmps.getD 68 undef] = _; rfl)) ?_
            have f0 : (flags [24, 31] listed).getD 0 false = true := done_true (dep_of hd 24 (by kernel_rfl))
            have hj0 := hj
            obtain ⟨fD1, h1, h2, h3, h4, h5⟩ := hj
            refine (err_num (h5 f0)).mono ?_
            rintro e w' ⟨rfl, rfl⟩
            exact ⟨_, rfl, (calm7 (fun fs vs x y h hb => jb_later fs vs x y h hb) (by kernel_rfl) (by kernel_rfl) hj0 (later_refl _)), rfl⟩
          · intro listed a W H hj hl hd
            have t62 : a.tmps.getD 62 undef = .bool true := H.get 18 62 (by kernel_rfl) (dep_of hd 18 (by kernel_rfl)) (fun _ h => by cases h)
            have t10 : a.tmps.getD 10 undef = .pointer (some ⟨g, 0, none⟩) := (H.old 10 (by kernel_rfl)).trans rfl
            exact step7_value (i := 26) rfl (wanted_at (j := 18) (d := 62) (b := true) rfl (by kernel_rfl) t62) (run_op_move rfl t10) (calm7 (fun fs vs x y h hb => jb_later fs vs x y h hb) (by kernel_rfl) (by kernel_rfl) hj (later_refl _)) rfl
          · intro listed a W H hj hl hd
            have t62 : a.tmps.getD 62 undef = .bool true := H.get 18 62 (by kernel_rfl) (dep_of hd 18 (by kernel_rfl)) (fun _ h => by cases h)
            have t12 : a.tmps.getD 12 undef = .pointer (some ⟨bx, 0, none⟩) := (H.old 12 (by kernel_rfl)).trans rfl
            exact step7_value (i := 27) rfl (wanted_at (j := 18) (d := 62) (b := true) rfl (by kernel_rfl) t62) (run_op_fieldAddr rfl t12 (run_field_a bx 0 (by decide) W)) (calm7 (fun fs vs x y h hb => jb_later fs vs x y h hb) (by kernel_rfl) (by kernel_rfl) hj (later_refl _)) rfl
          · intro listed a W H hj hl hd
            have t62 : a.tmps.getD 62 undef = .bool true := H.get 18 62 (by kernel_rfl) (dep_of hd 18 (by kernel_rfl)) (fun _ h => by cases h)
            have t71 : a.tmps.getD 71 undef = .pointer (some ⟨bx, 0, none⟩) := H.get 27 71 (by kernel_rfl) (dep_of hd 27 (by kernel_rfl)) (fun _ h => by cases h)
            exact step7_value (i := 28) rfl (wanted_at (j := 18) (d := 62) (b := true) rfl (by kernel_rfl) t62) (run_op_load rfl t71 (by obtain ⟨fD1, h1, h2, h3, h4, h5⟩ := hj; exact run_int_load _ xp W (((XD.out.step h4).cell 0).trans rfl))) (calm7 (fun fs vs x y h hb => jb_later fs vs x y h hb) (by kernel_rfl) (by kernel_rfl) hj (later_refl _)) rfl
          · intro listed a W H hj hl hd
            have t62 : a.tmps.getD 62 undef = .bool true := H.get 18 62 (by kernel_rfl) (dep_of hd 18 (by kernel_rfl)) (fun _ h => by cases h)
            have t12 : a.tmps.getD 12 undef = .pointer (some ⟨bx, 0, none⟩) := (H.old 12 (by kernel_rfl)).trans rfl
            exact step7_value (i := 29) rfl (wanted_at (j := 18) (d := 62) (b := true) rfl (by kernel_rfl) t62) (run_op_fieldAddr rfl t12 (run_field_a bx 1 (by decide) W)) (calm7 (fun fs vs x y h hb => jb_later fs vs x y h hb) (by kernel_rfl) (by kernel_rfl) hj (later_refl _)) rfl
          · intro listed a W H hj hl hd
            have t62 : a.tmps.getD 62 undef = .bool true := H.get 18 62 (by kernel_rfl) (dep_of hd 18 (by kernel_rfl)) (fun _ h => by cases h)
            have t73 : a.tmps.getD 73 undef = .pointer (some ⟨bx, 1, none⟩) := H.get 29 73 (by kernel_rfl) (dep_of hd 29 (by kernel_rfl)) (fun _ h => by cases h)
            exact step7_value (i := 30) rfl (wanted_at (j := 18) (d := 62) (b := true) rfl (by kernel_rfl) t62) (run_op_load rfl t73 (by obtain ⟨fD1, h1, h2, h3, h4, h5⟩ := hj; exact run_word_load _ xa W (((XD.out.step h4).cell 1).trans rfl))) (calm7 (fun fs vs x y h hb => jb_later fs vs x y h hb) (by kernel_rfl) (by kernel_rfl) hj (later_refl _)) rfl
          · intro listed a W H hj hl hd
            have t62 : a.tmps.getD 62 undef = .bool true := H.get 18 62 (by kernel_rfl) (dep_of hd 18 (by kernel_rfl)) (fun _ h => by cases h)
            have t70 : a.tmps.getD 70 undef = .pointer (some ⟨g, 0, none⟩) := H.get 26 70 (by kernel_rfl) (dep_of hd 26 (by kernel_rfl)) (fun _ h => by cases h)
            have t72 : a.tmps.getD 72 undef = .int .i64 xp := H.get 28 72 (by kernel_rfl) (dep_of hd 28 (by kernel_rfl)) (fun _ h => by cases h)
            have t74 : a.tmps.getD 74 undef = .int .u64 xa := H.get 30 74 (by kernel_rfl) (dep_of hd 30 (by kernel_rfl)) (fun _ h => by cases h)
            refine step7_call (i := 31) rfl (wanted_at (j := 18) (d := 62) (b := true) rfl (by kernel_rfl) t62) (run_op_call (vs := #[.pointer (some ⟨g, 0, none⟩), .int .i64 xp, .int .u64 xa]) Try.func13 (by kernel_rfl) (by kernel_rfl) rfl (by simp only [List.map_toArray, List.map_cons, List.map_nil]; show #[a.tmps.getD 70 undef, a.tmps.getD 72 undef, a.tmps.getD 74 undef] = _; rw [t70, t72, t74])) ?_
            obtain ⟨fD1, h1, h2, h3, h4, h5⟩ := hj
            have hl0 : (flags [24, 31] listed).getD 1 false = false := hl
            rw [hl0, if_neg (by decide)] at h2
            refine (refbset_any xp xa a0 a1 h2).mono ?_
            rw [HS.out]
            rintro e W2 ⟨rfl, hc, hs⟩
            have hs := moves3 (g := g) hs
            have h1b := h1.keep hs.turn h3.flip
            have e1 : (flags [24, 31] (listed.setIfInBounds 31 true)).getD 0 false = (flags [24, 31] listed).getD 0 false := getD_set_ne true (by decide)
            refine ⟨_, rfl, ⟨fD1, ?_, ?_, h3, h4.trans (hs.orR fD1), fun h => ?_⟩, rfl⟩
            · rw [e1]; exact h1b
            · have e : (flags [24, 31] (listed.setIfInBounds 31 true)).getD 1 false = true := set_self7 listed 31
              rw [e, if_pos rfl]; exact hc
            · have e2 : slots [68] (a.put (some 75) (.int .i64 q)) = slots [68] a := slots_put (fun k e => by cases e; rfl)
              have e3 := (h5 (e1.symm.trans h)).step (hs.orR fD1)
              rw [← e2] at e3
              exact e3
          · intro listed a W H hj hl hd
            have t62 : a.tmps.getD 62 undef = .bool true := H.get 18 62 (by kernel_rfl) (dep_of hd 18 (by kernel_rfl)) (fun _ h => by cases h)
            have t69 : a.tmps.getD 69 undef = .int .i64 q := H.get 25 69 (by kernel_rfl) (dep_of hd 25 (by kernel_rfl)) (fun _ h => by cases h)
            have t75 : a.tmps.getD 75 undef = .int .i64 q := H.get 31 75 (by kernel_rfl) (dep_of hd 31 (by kernel_rfl)) (fun _ h => by cases h)
            exact step7_value (i := 32) rfl (wanted_at (j := 18) (d := 62) (b := true) rfl (by kernel_rfl) t62) (run_op_bin rfl t69 t75 (bin_neq _ _ _ q q false (by simp))) (calm7 (fun fs vs x y h hb => jb_later fs vs x y h hb) (by kernel_rfl) (by kernel_rfl) hj (later_refl _)) rfl
          · intro listed a W H hj hl hd
            have t58 : a.tmps.getD 58 undef = .bool false := H.get 14 58 (by kernel_rfl) (dep_of hd 14 (by kernel_rfl)) (fun _ h => by cases h)
            have t62 : a.tmps.getD 62 undef = .bool true := H.get 18 62 (by kernel_rfl) (dep_of hd 18 (by kernel_rfl)) (fun _ h => by cases h)
            have t76 : a.tmps.getD 76 undef = .bool false := H.get 32 76 (by kernel_rfl) (dep_of hd 32 (by kernel_rfl)) (fun _ h => by cases h)
            exact step7_value (i := 33) rfl (wanted_at (j := 14) (d := 58) (b := false) rfl (by kernel_rfl) t58) (run_op_pick rfl t62 t76) (calm7 (fun fs vs x y h hb => jb_later fs vs x y h hb) (by kernel_rfl) (by kernel_rfl) hj (later_refl _)) rfl
          · intro listed a W H hj hl hd
            have t58 : a.tmps.getD 58 undef = .bool false := H.get 14 58 (by kernel_rfl) (dep_of hd 14 (by kernel_rfl)) (fun _ h => by cases h)
            have t77 : a.tmps.getD 77 undef = .bool false := H.get 33 77 (by kernel_rfl) (dep_of hd 33 (by kernel_rfl)) (fun _ h => by cases h)
            exact step7_value (i := 34) rfl rfl (run_op_pickF rfl t58 t77) (calm7 (fun fs vs x y h hb => jb_later fs vs x y h hb) (by kernel_rfl) (by kernel_rfl) hj (later_refl _)) rfl
        · intro a WC hdef hsz hw hall hact
          obtain ⟨u, hu⟩ : ∃ u : Nat → Value, ∀ k, a.tmps.getD k undef = u k := ⟨_, fun _ => rfl⟩
          have h78 : u 78 = .bool false := by rw [← hu]; exact hall 34 _ rfl
          simp only [hu] at hact
          have hact' : a = ([44, 45, 46, 47, 48, 49, 50, 51, 52, 53, 54, 55, 56, 57, 58, 59, 60, 61, 62, 63, 64, 65, 66, 67, 68, 69, 70, 71, 72, 73, 74, 75, 76, 77, 78] : List Nat).foldl (fun b k => b.put (some k) (u k)) _ := hact
          simp only [List.foldl] at hact'
          simp only [Act.put, List.setIfInBounds_toArray, List.set_cons_succ, List.set_cons_zero] at hact'
          have HAC := Lib.hid hact'
          have HX9 := Lib.hid hw
          clear hact hact' hall hdef hsz hw
          rw [h78] at HAC
          rw [HAC.out]
          obtain ⟨fE, k1, k2, k3, k4, _⟩ := HX9.out
          have TE : Hid (BR WC w.heap.size fE gD g gh ga s2 s2) := ⟨k1, k2, k3⟩
          have SE := Lib.hid (k4.below SD.out TD.out.ge TD.out.d.base_le)
          have XE := Lib.hid (XD.out.step k4)
          clear hu HX9 k1 k2 k3 k4 TD SD XD HWD HS HL h78
          obtain ⟨vo, HO⟩ : ∃ o, Hid (ofBk s2 xp = o) := ⟨_, rfl⟩
          have x0 : WC.cell? ⟨bx, 0, none⟩ = some (.int .i64 xp) := by rw [XE.out.cell]; rfl
          go_wp2_with fail
          clear x0
          refine (bkof_any xp TE.out.d).mono ?_
          rw [HO.out]
          rintro e W4 ⟨rfl, hb4⟩
          have T4 := Lib.hid (TE.out.since hb4.out)
          have S4 := Lib.hid (below_chain SE.out hb4.out)
          have X4 := Lib.hid (XE.out.since hb4.out)
          clear hb4 TE SE XE
          by_cases hp : xp < 0
          · have HE : Hid (vo = none) := by show _ = _; rw [← HO.out]; exact if_pos (Or.inl hp)
            obtain rfl := HE.out
            have D1 : decide ((0 : Int) ≤ xp) = false := decide_eq_false (by omega)
            simp only [Option.getD_none, Option.isSome_none]
            have x0 : W4.cell? ⟨bx, 0, none⟩ = some (.int .i64 xp) := by rw [X4.out.cell]; rfl
            have c0 := T4.out.k.c0
            have c1 := T4.out.k.c1
            rw [HL2.out] at c0 c1
            go_wp2_with fail
            go_quiet (fail)
            clear x0 c0 c1
            obtain ⟨W5, HW5⟩ : ∃ W5, Hid (W5 = W4.drewN nq) := ⟨_, rfl⟩
            rw [← HW5.out]
            have hb5 : Below W4.heap.size W4 W5 := by rw [HW5.out]; exact below_drewN (Below.refl _ _) _
            have T5 := Lib.hid (T4.out.since hb5)
            have S5 := Lib.hid (below_chain S4.out hb5)
            have X5 := Lib.hid (X4.out.since hb5)
            clear hb5 T4 S4 X4 HW5
            have x0 : W5.cell? ⟨bx, 0, none⟩ = some (.int .i64 xp) := by rw [X5.out.cell]; rfl
            have c0 := T5.out.k.c0
            have c1 := T5.out.k.c1
            rw [HL2.out] at c0 c1
            go_wp2_with fail
            go_quiet (fail)
            clear x0 c0 c1
            obtain ⟨W6, HW6⟩ : ∃ W6, Hid (W6 = W5.drewN nq) := ⟨_, rfl⟩
            rw [← HW6.out]
            have hb6 : Below W5.heap.size W5 W6 := by rw [HW6.out]; exact below_drewN (Below.refl _ _) _
            have T6 := Lib.hid (T5.out.since hb6)
            have S6 := Lib.hid (below_chain S5.out hb6)
            clear hb6 T5 S5 X5 HW6
            go_wp2_with fail
            refine (bkpages_any T6.out.d).mono ?_
            rintro e W7 ⟨A7, n7, c7, rfl, hi7, hb7⟩
            have HN7 : Hid ((pagesBk s2).length = n7) := hi7.out.len
            have hn7 : n7 ≤ 256 := by have := pages_len_le (s := s2); rw [HN7.out, HL2.out] at this; omega
            have T7 := Lib.hid (T6.out.since hb7.out)
            have P7 := Lib.hid (hi7.out)
            have B7 := hb7
            have hz7 : W6.heap.size ≤ W7.heap.size := hb7.out.size
            clear hi7 hb7
            go_wp2_with fail
            refine (bkrange_any lo up T7.out.d).mono ?_
            rintro e W8 ⟨A8, n8, c8, rfl, hi8, hb8⟩
            have HN8 : Hid ((rangeBk s2 lo up).length = n8) := hi8.out.len
            have hn8 : n8 ≤ 256 := by have := range_len_le (s := s2) (lo := lo) (hi := up); rw [HN8.out, HL2.out] at this; omega
            have hlt7 : Hid (∀ b, (Value.slice A7 n7 c7).ownBlock = some b → b < W7.heap.size) := P7.out.block_lt
            have T8 := Lib.hid (T7.out.since hb8.out)
            have P8 := Lib.hid (P7.out.since hb8.out)
            have Q8 := Lib.hid (hi8.out)
            have B8 := Lib.hid (below_chain B7.out hb8.out)
            have hz8 : W7.heap.size ≤ W8.heap.size := hb8.out.size
            clear hi8 hb8 T7 P7 B7
            go_wp2_with fail
            refine (refbpages_any T8.out.k).mono ?_
            rintro e W9 ⟨A9, n9, c9, rfl, hi9, hb9⟩
            obtain rfl : n7 = n9 := by rw [← HN7.out]; exact hi9.out.len
            have T9 := Lib.hid (T8.out.since hb9.out)
            have P9 := Lib.hid (P8.out.since hb9.out)
            have Q9 := Lib.hid (Q8.out.since hb9.out)
            have I9 := Lib.hid (hi9.out.lie)
            have B9 := Lib.hid (below_chain B8.out hb9.out)
            have hz9 := Nat.le_trans hz8 hb9.out.size
            clear hi9 hb9 T8 P8 Q8 B8
            go_wp2_with fail
            refine (sameints_yes A7 A9 n7 c7 c9 (pagesBk s2) _ (by omega) P9.out.lie I9.out).mono ?_
            rintro e W10 ⟨rfl, hb10⟩
            have T10 := Lib.hid (T9.out.since hb10)
            have P10 := Lib.hid (P9.out.since hb10)
            have Q10 := Lib.hid (Q9.out.since hb10)
            have B10 := Lib.hid (below_chain B9.out hb10)
            have hz10 := Nat.le_trans hz9 hb10.size
            clear hb10 T9 P9 Q9 B9 I9
            go_wp2_with fail
            refine (refbrange_any lo up T10.out.k).mono ?_
            rintro e W11 ⟨A11, n11, c11, rfl, hi11, hb11⟩
            obtain rfl : n8 = n11 := by rw [← HN8.out]; exact hi11.out.len
            have P11 := Lib.hid (P10.out.since hb11.out)
            have Q11 := Lib.hid (Q10.out.since hb11.out)
            have I11 := Lib.hid (hi11.out.lie)
            have B11 := Lib.hid (below_chain B10.out hb11.out)
            have hz11 := Nat.le_trans hz10 hb11.out.size
            clear hi11 hb11 T10 P10 Q10 B10
            go_wp2_with fail
            refine (samewords_yes A8 A11 n8 c8 c11 (rangeBk s2 lo up) _ (by omega) Q11.out.lie I11.out).mono ?_
            rintro e W12 ⟨rfl, hb12⟩
            have P12 := Lib.hid (P11.out.since hb12)
            have Q12 := Lib.hid (Q11.out.since hb12)
            have B12 := Lib.hid (below_chain B11.out hb12)
            have hz12 := Nat.le_trans hz11 hb12.size
            clear hb12 P11 Q11 B11 I11
            go_wp2_with fail
            refine (overints_any A7 n7 c7 _ _ _ (by omega) B12.out.size P12.out).mono ?_
            rintro e W13 ⟨rfl, hg13⟩
            have Q13 := Lib.hid (Q12.out.kept hg13 hlt7.out)
            have B13 : Hid (Below W6.heap.size W6 W13) := B12.out.grown hg13 B12.out.size fun k hk => (P12.out.row.lt k hk).1
            have hz13 : W7.heap.size ≤ W13.heap.size := Nat.le_trans hz12 hg13.size
            clear hg13 P12 Q12 B12 hlt7
            go_wp2_with fail
            refine (overwords_any A8 n8 c8 _ _ _ (by omega) hz13 Q13.out).mono ?_
            rintro e W14 ⟨rfl, hg14⟩
            have B14 : Hid (Below W6.heap.size W6 W14) := B13.out.grown hg14 B13.out.size fun k hk => Nat.le_trans hz7 (Q13.out.row.lt k hk).1
            have TF := Lib.hid (T6.out.since B14.out)
            have SF := Lib.hid (below_chain S6.out B14.out)
            clear hg14 Q13 B13 B14 T6 S6 HN7 HN8
            go_wp2_with fail
            go_roundw
            case rel => exact ⟨i + 1, fE, s2, by go_num, by omega, HL2, TF, SF⟩
            case measure => simp [intOf]; omega
          by_cases hq : (P : Int) ≤ xp
          · have HE : Hid (vo = none) := by show _ = _; rw [← HO.out]; exact if_pos (Or.inr (by rw [HL2.out]; exact hq))
            obtain rfl := HE.out
            have D1 : decide ((0 : Int) ≤ xp) = true := decide_eq_true (by omega)
            have D2 : decide (xp < (P : Int)) = false := decide_eq_false (by omega)
            simp only [Option.getD_none, Option.isSome_none]
            have x0 : W4.cell? ⟨bx, 0, none⟩ = some (.int .i64 xp) := by rw [X4.out.cell]; rfl
            have c0 := T4.out.k.c0
            have c1 := T4.out.k.c1
            rw [HL2.out] at c0 c1
            go_wp2_with fail
            go_quiet (fail)
            clear x0 c0 c1
            obtain ⟨W5, HW5⟩ : ∃ W5, Hid (W5 = W4.drewN nq) := ⟨_, rfl⟩
            rw [← HW5.out]
            have hb5 : Below W4.heap.size W4 W5 := by rw [HW5.out]; exact below_drewN (Below.refl _ _) _
            have T5 := Lib.hid (T4.out.since hb5)
            have S5 := Lib.hid (below_chain S4.out hb5)
            have X5 := Lib.hid (X4.out.since hb5)
            clear hb5 T4 S4 X4 HW5
            have x0 : W5.cell? ⟨bx, 0, none⟩ = some (.int .i64 xp) := by rw [X5.out.cell]; rfl
            have c0 := T5.out.k.c0
            have c1 := T5.out.k.c1
            rw [HL2.out] at c0 c1
            go_wp2_with fail
            go_quiet (fail)
            clear x0 c0 c1
            obtain ⟨W6, HW6⟩ : ∃ W6, Hid (W6 = W5.drewN nq) := ⟨_, rfl⟩
            rw [← HW6.out]
            have hb6 : Below W5.heap.size W5 W6 := by rw [HW6.out]; exact below_drewN (Below.refl _ _) _
            have T6 := Lib.hid (T5.out.since hb6)
            have S6 := Lib.hid (below_chain S5.out hb6)
            clear hb6 T5 S5 X5 HW6
            go_wp2_with fail
            refine (bkpages_any T6.out.d).mono ?_
            rintro e W7 ⟨A7, n7, c7, rfl, hi7, hb7⟩
            have HN7 : Hid ((pagesBk s2).length = n7) := hi7.out.len
            have hn7 : n7 ≤ 256 := by have := pages_len_le (s := s2); rw [HN7.out, HL2.out] at this; omega
            have T7 := Lib.hid (T6.out.since hb7.out)
            have P7 := Lib.hid (hi7.out)
            have B7 := hb7
            have hz7 : W6.heap.size ≤ W7.heap.size := hb7.out.size
            clear hi7 hb7
            go_wp2_with fail
            refine (bkrange_any lo up T7.out.d).mono ?_
            rintro e W8 ⟨A8, n8, c8, rfl, hi8, hb8⟩
            have HN8 : Hid ((rangeBk s2 lo up).length = n8) := hi8.out.len
            have hn8 : n8 ≤ 256 := by have := range_len_le (s := s2) (lo := lo) (hi := up); rw [HN8.out, HL2.out] at this; omega
            have hlt7 : Hid (∀ b, (Value.slice A7 n7 c7).ownBlock = some b → b < W7.heap.size) := P7.out.block_lt
            have T8 := Lib.hid (T7.out.since hb8.out)
            have P8 := Lib.hid (P7.out.since hb8.out)
            have Q8 := Lib.hid (hi8.out)
            have B8 := Lib.hid (below_chain B7.out hb8.out)
            have hz8 : W7.heap.size ≤ W8.heap.size := hb8.out.size
            clear hi8 hb8 T7 P7 B7
            go_wp2_with fail
            refine (refbpages_any T8.out.k).mono ?_
            rintro e W9 ⟨A9, n9, c9, rfl, hi9, hb9⟩
            obtain rfl : n7 = n9 := by rw [← HN7.out]; exact hi9.out.len
            have T9 := Lib.hid (T8.out.since hb9.out)
            have P9 := Lib.hid (P8.out.since hb9.out)
            have Q9 := Lib.hid (Q8.out.since hb9.out)
            have I9 := Lib.hid (hi9.out.lie)
            have B9 := Lib.hid (below_chain B8.out hb9.out)
            have hz9 := Nat.le_trans hz8 hb9.out.size
            clear hi9 hb9 T8 P8 Q8 B8
            go_wp2_with fail
            refine (sameints_yes A7 A9 n7 c7 c9 (pagesBk s2) _ (by omega) P9.out.lie I9.out).mono ?_
            rintro e W10 ⟨rfl, hb10⟩
            have T10 := Lib.hid (T9.out.since hb10)
            have P10 := Lib.hid (P9.out.since hb10)
            have Q10 := Lib.hid (Q9.out.since hb10)
            have B10 := Lib.hid (below_chain B9.out hb10)
            have hz10 := Nat.le_trans hz9 hb10.size
            clear hb10 T9 P9 Q9 B9 I9
            go_wp2_with fail
            refine (refbrange_any lo up T10.out.k).mono ?_
            rintro e W11 ⟨A11, n11, c11, rfl, hi11, hb11⟩
            obtain rfl : n8 = n11 := by rw [← HN8.out]; exact hi11.out.len
            have P11 := Lib.hid (P10.out.since hb11.out)
            have Q11 := Lib.hid (Q10.out.since hb11.out)
            have I11 := Lib.hid (hi11.out.lie)
            have B11 := Lib.hid (below_chain B10.out hb11.out)
            have hz11 := Nat.le_trans hz10 hb11.out.size
            clear hi11 hb11 T10 P10 Q10 B10
            go_wp2_with fail
            refine (samewords_yes A8 A11 n8 c8 c11 (rangeBk s2 lo up) _ (by omega) Q11.out.lie I11.out).mono ?_
            rintro e W12 ⟨rfl, hb12⟩
            have P12 := Lib.hid (P11.out.since hb12)
            have Q12 := Lib.hid (Q11.out.since hb12)
            have B12 := Lib.hid (below_chain B11.out hb12)
            have hz12 := Nat.le_trans hz11 hb12.size
            clear hb12 P11 Q11 B11 I11
            go_wp2_with fail
            refine (overints_any A7 n7 c7 _ _ _ (by omega) B12.out.size P12.out).mono ?_
            rintro e W13 ⟨rfl, hg13⟩
            have Q13 := Lib.hid (Q12.out.kept hg13 hlt7.out)
            have B13 : Hid (Below W6.heap.size W6 W13) := B12.out.grown hg13 B12.out.size fun k hk => (P12.out.row.lt k hk).1
            have hz13 : W7.heap.size ≤ W13.heap.size := Nat.le_trans hz12 hg13.size
            clear hg13 P12 Q12 B12 hlt7
            go_wp2_with fail
            refine (overwords_any A8 n8 c8 _ _ _ (by omega) hz13 Q13.out).mono ?_
            rintro e W14 ⟨rfl, hg14⟩
            have B14 : Hid (Below W6.heap.size W6 W14) := B13.out.grown hg14 B13.out.size fun k hk => Nat.le_trans hz7 (Q13.out.row.lt k hk).1
            have TF := Lib.hid (T6.out.since B14.out)
            have SF := Lib.hid (below_chain S6.out B14.out)
            clear hg14 Q13 B13 B14 T6 S6 HN7 HN8
            go_wp2_with fail
            go_roundw
            case rel => exact ⟨i + 1, fE, s2, by go_num, by omega, HL2, TF, SF⟩
            case measure => simp [intOf]; omega
          obtain ⟨k, rfl⟩ : ∃ k : Nat, xp = (k : Int) := ⟨xp.toNat, by omega⟩
          have hk : k < P := by omega
          have k0 : (0 : Int) ≤ (k : Int) := by omega
          have k1 : (k : Int) < (P : Int) := by omega
          have HE : Hid (vo = s2.getD k none) := by show _ = _; rw [← HO.out]; exact of_at (by rw [HL2.out]; exact hk)
          clear hp hq HO
          cases vo with
          | none =>
            have HE : Hid (s2.getD k none = none) := HE.out.symm
            have D1 : decide ((0 : Int) ≤ (k : Int)) = true := decide_eq_true (by omega)
            have D2 : decide ((k : Int) < (P : Int)) = true := decide_eq_true (by omega)
            simp only [Option.getD_none, Option.isSome_none]
            have x0 : W4.cell? ⟨bx, 0, none⟩ = some (.int .i64 (k : Int)) := by rw [X4.out.cell]; rfl
            have c0 := T4.out.k.c0
            have c1 := T4.out.k.c1
            rw [HL2.out] at c0 c1
            have g6 := T4.out.k.hAt (k := k) (by rw [HL2.out]; exact hk)
            have g7 := T4.out.k.aAt (k := k) (by rw [HL2.out]; exact hk)
            rw [HE.out] at g6 g7
            have g6' : W4.cell? ⟨gh, k, none⟩ = some (.bool false) := g6
            clear g6 g7
            go_wp2_with fail
            go_quiet (fail)
            clear x0 c0 c1 g6'
            obtain ⟨W5, HW5⟩ : ∃ W5, Hid (W5 = W4.drewN nq) := ⟨_, rfl⟩
            rw [← HW5.out]
            have hb5 : Below W4.heap.size W4 W5 := by rw [HW5.out]; exact below_drewN (Below.refl _ _) _
            have T5 := Lib.hid (T4.out.since hb5)
            have S5 := Lib.hid (below_chain S4.out hb5)
            have X5 := Lib.hid (X4.out.since hb5)
            clear hb5 T4 S4 X4 HW5
            have x0 : W5.cell? ⟨bx, 0, none⟩ = some (.int .i64 (k : Int)) := by rw [X5.out.cell]; rfl
            have c0 := T5.out.k.c0
            have c1 := T5.out.k.c1
            rw [HL2.out] at c0 c1
            have g6 := T5.out.k.hAt (k := k) (by rw [HL2.out]; exact hk)
            have g7 := T5.out.k.aAt (k := k) (by rw [HL2.out]; exact hk)
            rw [HE.out] at g6 g7
            have g6' : W5.cell? ⟨gh, k, none⟩ = some (.bool false) := g6
            clear g6 g7
            go_wp2_with fail
            go_quiet (fail)
            clear x0 c0 c1 g6'
            obtain ⟨W6, HW6⟩ : ∃ W6, Hid (W6 = W5.drewN nq) := ⟨_, rfl⟩
            rw [← HW6.out]
            have hb6 : Below W5.heap.size W5 W6 := by rw [HW6.out]; exact below_drewN (Below.refl _ _) _
            have T6 := Lib.hid (T5.out.since hb6)
            have S6 := Lib.hid (below_chain S5.out hb6)
            clear hb6 T5 S5 X5 HW6
            go_wp2_with fail
            refine (bkpages_any T6.out.d).mono ?_
            rintro e W7 ⟨A7, n7, c7, rfl, hi7, hb7⟩
            have HN7 : Hid ((pagesBk s2).length = n7) := hi7.out.len
            have hn7 : n7 ≤ 256 := by have := pages_len_le (s := s2); rw [HN7.out, HL2.out] at this; omega
            have T7 := Lib.hid (T6.out.since hb7.out)
            have P7 := Lib.hid (hi7.out)
            have B7 := hb7
            have hz7 : W6.heap.size ≤ W7.heap.size := hb7.out.size
            clear hi7 hb7
            go_wp2_with fail
            refine (bkrange_any lo up T7.out.d).mono ?_
            rintro e W8 ⟨A8, n8, c8, rfl, hi8, hb8⟩
            have HN8 : Hid ((rangeBk s2 lo up).length = n8) := hi8.out.len
            have hn8 : n8 ≤ 256 := by have := range_len_le (s := s2) (lo := lo) (hi := up); rw [HN8.out, HL2.out] at this; omega
            have hlt7 : Hid (∀ b, (Value.slice A7 n7 c7).ownBlock = some b → b < W7.heap.size) := P7.out.block_lt
            have T8 := Lib.hid (T7.out.since hb8.out)
            have P8 := Lib.hid (P7.out.since hb8.out)
            have Q8 := Lib.hid (hi8.out)
            have B8 := Lib.hid (below_chain B7.out hb8.out)
            have hz8 : W7.heap.size ≤ W8.heap.size := hb8.out.size
            clear hi8 hb8 T7 P7 B7
            go_wp2_with fail
            refine (refbpages_any T8.out.k).mono ?_
            rintro e W9 ⟨A9, n9, c9, rfl, hi9, hb9⟩
            obtain rfl : n7 = n9 := by rw [← HN7.out]; exact hi9.out.len
            have T9 := Lib.hid (T8.out.since hb9.out)
            have P9 := Lib.hid (P8.out.since hb9.out)
            have Q9 := Lib.hid (Q8.out.since hb9.out)
            have I9 := Lib.hid (hi9.out.lie)
            have B9 := Lib.hid (below_chain B8.out hb9.out)
            have hz9 := Nat.le_trans hz8 hb9.out.size
            clear hi9 hb9 T8 P8 Q8 B8
            go_wp2_with fail
            refine (sameints_yes A7 A9 n7 c7 c9 (pagesBk s2) _ (by omega) P9.out.lie I9.out).mono ?_
            rintro e W10 ⟨rfl, hb10⟩
            have T10 := Lib.hid (T9.out.since hb10)
            have P10 := Lib.hid (P9.out.since hb10)
            have Q10 := Lib.hid (Q9.out.since hb10)
            have B10 := Lib.hid (below_chain B9.out hb10)
            have hz10 := Nat.le_trans hz9 hb10.size
            clear hb10 T9 P9 Q9 B9 I9
            go_wp2_with fail
            refine (refbrange_any lo up T10.out.k).mono ?_
            rintro e W11 ⟨A11, n11, c11, rfl, hi11, hb11⟩
            obtain rfl : n8 = n11 := by rw [← HN8.out]; exact hi11.out.len
            have P11 := Lib.hid (P10.out.since hb11.out)
            have Q11 := Lib.hid (Q10.out.since hb11.out)
            have I11 := Lib.hid (hi11.out.lie)
            have B11 := Lib.hid (below_chain B10.out hb11.out)
            have hz11 := Nat.le_trans hz10 hb11.out.size
            clear hi11 hb11 T10 P10 Q10 B10
            go_wp2_with fail
            refine (samewords_yes A8 A11 n8 c8 c11 (rangeBk s2 lo up) _ (by omega) Q11.out.lie I11.out).mono ?_
            rintro e W12 ⟨rfl, hb12⟩
            have P12 := Lib.hid (P11.out.since hb12)
            have Q12 := Lib.hid (Q11.out.since hb12)
            have B12 := Lib.hid (below_chain B11.out hb12)
            have hz12 := Nat.le_trans hz11 hb12.size
            clear hb12 P11 Q11 B11 I11
            go_wp2_with fail
            refine (overints_any A7 n7 c7 _ _ _ (by omega) B12.out.size P12.out).mono ?_
            rintro e W13 ⟨rfl, hg13⟩
            have Q13 := Lib.hid (Q12.out.kept hg13 hlt7.out)
            have B13 : Hid (Below W6.heap.size W6 W13) := B12.out.grown hg13 B12.out.size fun k hk => (P12.out.row.lt k hk).1
            have hz13 : W7.heap.size ≤ W13.heap.size := Nat.le_trans hz12 hg13.size
            clear hg13 P12 Q12 B12 hlt7
            go_wp2_with fail
            refine (overwords_any A8 n8 c8 _ _ _ (by omega) hz13 Q13.out).mono ?_
            rintro e W14 ⟨rfl, hg14⟩
            have B14 : Hid (Below W6.heap.size W6 W14) := B13.out.grown hg14 B13.out.size fun k hk => Nat.le_trans hz7 (Q13.out.row.lt k hk).1
            have TF := Lib.hid (T6.out.since B14.out)
            have SF := Lib.hid (below_chain S6.out B14.out)
            clear hg14 Q13 B13 B14 T6 S6 HN7 HN8
            go_wp2_with fail
            go_roundw
            case rel => exact ⟨i + 1, fE, s2, by go_num, by omega, HL2, TF, SF⟩
            case measure => simp [intOf]; omega
          | some v =>
            have HE : Hid (s2.getD k none = some v) := HE.out.symm
            have D1 : decide ((0 : Int) ≤ (k : Int)) = true := decide_eq_true (by omega)
            have D2 : decide ((k : Int) < (P : Int)) = true := decide_eq_true (by omega)
            simp only [Option.getD_some, Option.isSome_some]
            have x0 : W4.cell? ⟨bx, 0, none⟩ = some (.int .i64 (k : Int)) := by rw [X4.out.cell]; rfl
            have c0 := T4.out.k.c0
            have c1 := T4.out.k.c1
            rw [HL2.out] at c0 c1
            have g6 := T4.out.k.hAt (k := k) (by rw [HL2.out]; exact hk)
            have g7 := T4.out.k.aAt (k := k) (by rw [HL2.out]; exact hk)
            rw [HE.out] at g6 g7
            have g6' : W4.cell? ⟨gh, k, none⟩ = some (.bool true) := g6
            have g7' : W4.cell? ⟨ga, k, none⟩ = some (.int .u64 v) := g7
            clear g6 g7
            go_wp2_with fail
            go_quiet (fail)
            clear x0 c0 c1 g6' g7'
            obtain ⟨W5, HW5⟩ : ∃ W5, Hid (W5 = W4.drewN nq) := ⟨_, rfl⟩
            rw [← HW5.out]
            have hb5 : Below W4.heap.size W4 W5 := by rw [HW5.out]; exact below_drewN (Below.refl _ _) _
            have T5 := Lib.hid (T4.out.since hb5)
            have S5 := Lib.hid (below_chain S4.out hb5)
            have X5 := Lib.hid (X4.out.since hb5)
            clear hb5 T4 S4 X4 HW5
            have x0 : W5.cell? ⟨bx, 0, none⟩ = some (.int .i64 (k : Int)) := by rw [X5.out.cell]; rfl
            have c0 := T5.out.k.c0
            have c1 := T5.out.k.c1
            rw [HL2.out] at c0 c1
            have g6 := T5.out.k.hAt (k := k) (by rw [HL2.out]; exact hk)
            have g7 := T5.out.k.aAt (k := k) (by rw [HL2.out]; exact hk)
            rw [HE.out] at g6 g7
            have g6' : W5.cell? ⟨gh, k, none⟩ = some (.bool true) := g6
            have g7' : W5.cell? ⟨ga, k, none⟩ = some (.int .u64 v) := g7
            clear g6 g7
            go_wp2_with fail
            go_quiet (fail)
            clear x0 c0 c1 g6' g7'
            obtain ⟨W6, HW6⟩ : ∃ W6, Hid (W6 = W5.drewN nq) := ⟨_, rfl⟩
            rw [← HW6.out]
            have hb6 : Below W5.heap.size W5 W6 := by rw [HW6.out]; exact below_drewN (Below.refl _ _) _
            have T6 := Lib.hid (T5.out.since hb6)
            have S6 := Lib.hid (below_chain S5.out hb6)
            clear hb6 T5 S5 X5 HW6
            go_wp2_with fail
            refine (bkpages_any T6.out.d).mono ?_
            rintro e W7 ⟨A7, n7, c7, rfl, hi7, hb7⟩
            have HN7 : Hid ((pagesBk s2).length = n7) := hi7.out.len
            have hn7 : n7 ≤ 256 := by have := pages_len_le (s := s2); rw [HN7.out, HL2.out] at this; omega
            have T7 := Lib.hid (T6.out.since hb7.out)
            have P7 := Lib.hid (hi7.out)
            have B7 := hb7
            have hz7 : W6.heap.size ≤ W7.heap.size := hb7.out.size
            clear hi7 hb7
            go_wp2_with fail
            refine (bkrange_any lo up T7.out.d).mono ?_
            rintro e W8 ⟨A8, n8, c8, rfl, hi8, hb8⟩
            have HN8 : Hid ((rangeBk s2 lo up).length = n8) := hi8.out.len
            have hn8 : n8 ≤ 256 := by have := range_len_le (s := s2) (lo := lo) (hi := up); rw [HN8.out, HL2.out] at this; omega
            have hlt7 : Hid (∀ b, (Value.slice A7 n7 c7).ownBlock = some b → b < W7.heap.size) := P7.out.block_lt
            have T8 := Lib.hid (T7.out.since hb8.out)
            have P8 := Lib.hid (P7.out.since hb8.out)
            have Q8 := Lib.hid (hi8.out)
            have B8 := Lib.hid (below_chain B7.out hb8.out)
            have hz8 : W7.heap.size ≤ W8.heap.size := hb8.out.size
            clear hi8 hb8 T7 P7 B7
            go_wp2_with fail
            refine (refbpages_any T8.out.k).mono ?_
            rintro e W9 ⟨A9, n9, c9, rfl, hi9, hb9⟩
            obtain rfl : n7 = n9 := by rw [← HN7.out]; exact hi9.out.len
            have T9 := Lib.hid (T8.out.since hb9.out)
            have P9 := Lib.hid (P8.out.since hb9.out)
            have Q9 := Lib.hid (Q8.out.since hb9.out)
            have I9 := Lib.hid (hi9.out.lie)
            have B9 := Lib.hid (below_chain B8.out hb9.out)
            have hz9 := Nat.le_trans hz8 hb9.out.size
            clear hi9 hb9 T8 P8 Q8 B8
            go_wp2_with fail
            refine (sameints_yes A7 A9 n7 c7 c9 (pagesBk s2) _ (by omega) P9.out.lie I9.out).mono ?_
            rintro e W10 ⟨rfl, hb10⟩
            have T10 := Lib.hid (T9.out.since hb10)
            have P10 := Lib.hid (P9.out.since hb10)
            have Q10 := Lib.hid (Q9.out.since hb10)
            have B10 := Lib.hid (below_chain B9.out hb10)
            have hz10 := Nat.le_trans hz9 hb10.size
            clear hb10 T9 P9 Q9 B9 I9
            go_wp2_with fail
            refine (refbrange_any lo up T10.out.k).mono ?_
            rintro e W11 ⟨A11, n11, c11, rfl, hi11, hb11⟩
            obtain rfl : n8 = n11 := by rw [← HN8.out]; exact hi11.out.len
            have P11 := Lib.hid (P10.out.since hb11.out)
            have Q11 := Lib.hid (Q10.out.since hb11.out)
            have I11 := Lib.hid (hi11.out.lie)
            have B11 := Lib.hid (below_chain B10.out hb11.out)
            have hz11 := Nat.le_trans hz10 hb11.out.size
            clear hi11 hb11 T10 P10 Q10 B10
            go_wp2_with fail
            refine (samewords_yes A8 A11 n8 c8 c11 (rangeBk s2 lo up) _ (by omega) Q11.out.lie I11.out).mono ?_
            rintro e W12 ⟨rfl, hb12⟩
            have P12 := Lib.hid (P11.out.since hb12)
            have Q12 := Lib.hid (Q11.out.since hb12)
            have B12 := Lib.hid (below_chain B11.out hb12)
            have hz12 := Nat.le_trans hz11 hb12.size
            clear hb12 P11 Q11 B11 I11
            go_wp2_with fail
            refine (overints_any A7 n7 c7 _ _ _ (by omega) B12.out.size P12.out).mono ?_
            rintro e W13 ⟨rfl, hg13⟩
            have Q13 := Lib.hid (Q12.out.kept hg13 hlt7.out)
            have B13 : Hid (Below W6.heap.size W6 W13) := B12.out.grown hg13 B12.out.size fun k hk => (P12.out.row.lt k hk).1
            have hz13 : W7.heap.size ≤ W13.heap.size := Nat.le_trans hz12 hg13.size
            clear hg13 P12 Q12 B12 hlt7
            go_wp2_with fail
            refine (overwords_any A8 n8 c8 _ _ _ (by omega) hz13 Q13.out).mono ?_
            rintro e W14 ⟨rfl, hg14⟩
            have B14 : Hid (Below W6.heap.size W6 W14) := B13.out.grown hg14 B13.out.size fun k hk => Nat.le_trans hz7 (Q13.out.row.lt k hk).1
            have TF := Lib.hid (T6.out.since B14.out)
            have SF := Lib.hid (below_chain S6.out B14.out)
            clear hg14 Q13 B13 B14 T6 S6 HN7 HN8
            go_wp2_with fail
            go_roundw
            case rel => exact ⟨i + 1, fE, s2, by go_num, by omega, HL2, TF, SF⟩
            case measure => simp [intOf]; omega
    · go_wp2_with fail
      refine (bkawake_any _).mono ?_
      rintro e W1 ⟨rfl, hb1⟩
      have S9 := Lib.hid (below_chain HS0.out hb1.out)
      go_wp2_with fail
      go_ret
      exact ⟨rfl, S9⟩
end Go.Proofs.Ytiojnpoefbnjoaa
