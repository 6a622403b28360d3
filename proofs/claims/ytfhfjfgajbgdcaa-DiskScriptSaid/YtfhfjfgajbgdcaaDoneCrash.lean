/- The statement's 'done' where it crashes or writes: two regions that draw their order, with calls that turn one disk or both. Conditions: the disks; fewer than 1000 writes wait. -/
import Derived.Test.YtfhfjfgajbgdcaaBoth
import Derived.Test.YtfhfjfgajbgdcaaFill
set_option linter.unusedVariables false
set_option linter.unusedSimpArgs false
namespace Go.Proofs.Ytfhfjfgajbgdcaa
open Go.RowKit

theorem run_a_field1 (g : Nat) (w : World) : (Instr.fieldAt 31 (.pointer (some ⟨g, 0, none⟩)) 1).run Try.prog w = .ok (.pointer (some ⟨g, 1, none⟩)) w := by go_simp
theorem run_a_field2 (g : Nat) (w : World) : (Instr.fieldAt 31 (.pointer (some ⟨g, 0, none⟩)) 2).run Try.prog w = .ok (.pointer (some ⟨g, 2, none⟩)) w := by go_simp
theorem run_a_field4 (g : Nat) (w : World) : (Instr.fieldAt 31 (.pointer (some ⟨g, 0, none⟩)) 4).run Try.prog w = .ok (.pointer (some ⟨g, 4, none⟩)) w := by go_simp
theorem run_int_load (p : Addr) (x : Int) (w : World) (hc : w.cell? p = some (.int .i64 x)) : (Instr.loadAt 3 (.pointer (some p))).run Try.prog w = .ok (.int .i64 x) w := by go_simp
theorem run_bools_load (p : Addr) (A : Option Addr) (n c : Nat) (w : World) (hc : w.cell? p = some (.slice A n c)) : (Instr.loadAt 29 (.pointer (some p))).run Try.prog w = .ok (.slice A n c) w := by go_simp
theorem run_eqi (x y : Operand) (p : Int) (w : World) : (do eqGuard .eql 3 x y (.int .i64 p) (.int .i64 p); binOp .eql 3 (.int .i64 p) (.int .i64 p)).run Try.prog w = .ok (.bool true) w := by go_simp
theorem set_self_true (l : Array Bool) (a : Nat) : (l.setIfInBounds a true).getD a true = true := by
  by_cases h : a < l.size <;> simp [h]
theorem lie_apart {w : World} {base n : Nat} {A : Option Addr} {ks : List Bool} {fp : Nat → Prop} (h : boolK.Lie w base A n ks) (hf : ∀ b, fp b → base ≤ b) : 0 < n → ∀ b ∈ blk A, ¬ fp b := fun h0 b hb hfb => by
  obtain ⟨ad, rfl, e2, _⟩ := h.each 0 h0
  have : b = ad.block := by simpa [blk] using hb
  subst this
  have := hf _ hfb
  omega
section
variable {WD W W' w : World} {base gD gK : Nat} {fD fK : Nat → Prop} {s s' : RD} {listed : Array Bool}
/-- What holds while both are crashed, in whatever order. -/
def CrashI (WD : World) (base : Nat) (fD fK : Nat → Prop) (gD gK : Nat) (s s' : RD) (fs : List Bool) (W : World) : Prop :=
  ∃ fD' fK', DiskAt W base fD' gD (if fs.getD 0 false = true then s' else s) ∧ RefAt W base fK' gK (if fs.getD 1 false = true then s' else s) ∧ Two fD' fK' ∧ Moves WD (Or2 fD fK) W (Or2 fD' fK')
theorem crashI_later (fs : List Bool) (x y : World) (h : CrashI WD base fD fK gD gK s s' fs x) (hb : Later x y) : CrashI WD base fD fK gD gK s s' fs y := by
  obtain ⟨fD', fK', h1, h2, h3, h4⟩ := h
  exact ⟨fD', fK', h1.since hb, h2.since hb, h3, h4.trans (Moves.of_below hb)⟩
set_option maxHeartbeats 8000000 in
set_option maxRecDepth 20000 in
theorem done_crash (at_ nn : Int) (sh : Bool) (ka : Option Addr) (kn kc : Nat) (keep : List Bool) (hB : Both w base fD fK gD gK s) (hm : s.W.length ≤ 1000) (hkn : kn ≤ 9223372036854775807) (hK : boolK.Lie w base ka kn keep) :
    Calls Try.prog 10 #[.pointer (some ⟨gD, 0, none⟩), .pointer (some ⟨gK, 0, none⟩), .agg #[.int .i64 3, .int .i64 at_, .int .i64 nn, .bool sh, .slice ka kn kc]] w (Done w base fD fK gD gK (afterCrash s keep)) := by
  obtain ⟨W0, HW0⟩ : ∃ W0, Hid (W0 = w.alloc (.cells #[.int .i64 3, .int .i64 at_, .int .i64 nn, .bool sh, .slice ka kn kc] 31)) := ⟨_, rfl⟩
  have P0 : Box9 (Or2 fD fK) W0 w.heap.size ⟨3, at_, nn, sh, ka, kn, kc⟩ := by rw [HW0.out]; exact Box9.new w ⟨3, at_, nn, sh, ka, kn, kc⟩ hB.lt
  have L0 : Below w.heap.size w W0 := by rw [HW0.out]; exact later_alloc _ _
  have B0 := Lib.hid (hB.since L0)
  have HL0 := Lib.hid L0
  have HP0 := Lib.hid P0
  obtain ⟨gx, HGX⟩ : ∃ gx, Hid (w.heap.size = gx) := ⟨_, rfl⟩
  have c0 := P0.c0
  have HK := Lib.hid hK
  have HM := Lib.hid hm
  have HBASE : Hid (base ≤ w.heap.size) := hB.d.base_le
  have HLK : Hid (Below base w W0) := L0.mono HBASE.out
  clear P0 L0 hK hm
  dsimp only at c0
  rw [HW0.out] at c0
  go_enter Try.func10, Try.ntmps10
  go_wp2_with fail
  rw [← HW0.out, HGX.out]
  clear c0
  obtain ⟨WD, HWD⟩ : ∃ W, Hid (W = W0.drew) := ⟨_, rfl⟩
  have HDL : Hid (Later W0 WD) := by rw [HWD.out]; exact (Below.refl _ _).drew
  have BD := Lib.hid (B0.out.since HDL.out)
  have PD := Lib.hid (HP0.out.since HDL.out)
  rw [HGX.out] at PD
  obtain ⟨s2, m, HS2⟩ : ∃ s2 m, Hid ((afterCrash s keep, crashN s keep) = (s2, m)) := ⟨_, _, rfl⟩
  have HSA : Hid (afterCrash s keep = s2) := congrArg Prod.fst HS2.out
  have HSM : Hid (crashN s keep = m) := congrArg Prod.snd HS2.out
  have HWE : Hid (s2.W = []) := by show _ = _; rw [← HSA.out]; rfl
  refine region_of_flags (by kernel_rfl) [.is (.pointer (some ⟨gD, 0, none⟩)), .is (.pointer (some ⟨gx, 4, none⟩)), .is (.slice ka kn kc), .is (.int .i64 (m : Int)), .is (.pointer (some ⟨gK, 0, none⟩)), .is (.pointer (some ⟨gx, 4, none⟩)), .is (.slice ka kn kc), .is (.int .i64 (m : Int)), .is (.bool true), .is (.bool true)] [] [3, 7] (CrashI WD base fD fK gD gK s s2) (by kernel_rfl) (by kernel_rfl) (by kernel_rfl) (fun fs x y h hb => crashI_later fs x y h hb) (by rw [← HWD.out]; exact ⟨fD, fK, BD.out.d, BD.out.r, BD.out.two, Moves.refl _ _⟩) ?_ ?_
  · refine Steps6.cons ?_ (Steps6.cons ?_ (Steps6.cons ?_ (Steps6.cons ?_ (Steps6.cons ?_ (Steps6.cons ?_ (Steps6.cons ?_ (Steps6.cons ?_ (Steps6.cons ?_ (Steps6.cons ?_ (Steps6.nil))))))))))
    · intro listed a W H hw hl hd
      have t0 : a.tmps.getD 0 undef = .pointer (some ⟨gD, 0, none⟩) := (H.old 0 (by kernel_rfl)).trans rfl
      exact step2_value (i := 0) rfl rfl (run_op_move rfl t0) (flag_later rfl (later_refl _)) rfl
    · intro listed a W H hw hl hd
      have t5 : a.tmps.getD 5 undef = .pointer (some ⟨gx, 0, none⟩) := (H.old 5 (by kernel_rfl)).trans rfl
      exact step2_value (i := 1) rfl rfl (run_op_fieldAddr rfl t5 (run_a_field4 gx W)) (flag_later rfl (later_refl _)) rfl
    · intro listed a W H hw hl hd
      have t89 : a.tmps.getD 89 undef = .pointer (some ⟨gx, 4, none⟩) := H.get 1 89 (by kernel_rfl) (dep_of hd 1 (by kernel_rfl)) (alive_none (by kernel_rfl))
      exact step2_value (i := 2) rfl rfl (run_op_load rfl t89 ((by obtain ⟨fD1, fK1, h1, h2, h3, h4⟩ := hw; exact run_bools_load _ ka kn kc W (PD.out.step h4).c4))) (flag_later rfl (later_refl _)) rfl
    · intro listed a W H hw hl hd
      have t88 : a.tmps.getD 88 undef = .pointer (some ⟨gD, 0, none⟩) := H.get 0 88 (by kernel_rfl) (dep_of hd 0 (by kernel_rfl)) (alive_none (by kernel_rfl))
      have t90 : a.tmps.getD 90 undef = .slice ka kn kc := H.get 2 90 (by kernel_rfl) (dep_of hd 2 (by kernel_rfl)) (alive_none (by kernel_rfl))
      refine step2_call (i := 3) rfl rfl (run_op_call (vs := #[.pointer (some ⟨gD, 0, none⟩), .slice ka kn kc]) Try.func24 (by kernel_rfl) (by kernel_rfl) rfl (by simp only [List.map_toArray, List.map_cons, List.map_nil]; show #[a.tmps.getD 88 undef, a.tmps.getD 90 undef] = _; rw [t88, t90])) ?_
      obtain ⟨fD1, fK1, h1, h2, h3, h4⟩ := hw
      have hTU := h4.turn.below (B := base) (fun b hb => BD.out.ge b hb) BD.out.d.base_le
      have hLK := (HK.out.below (HLK.out.trans (HDL.out.mono (Nat.le_trans HBASE.out HL0.out.size)))).below hTU
      have hKW : boolK.Lie W W.heap.size ka kn keep := hLK.wider (Nat.le_trans BD.out.d.base_le h4.size)
      have hl0 : (flags [3, 7] listed).getD 0 false = false := hl
      rw [hl0, if_neg (by decide)] at h1
      refine (dcrash_any ka kn kc keep h1 HM.out hkn hKW (lie_apart hLK h1.ge)).mono ?_
      rw [HS2.out]
      rintro e W2 ⟨fD2, rfl, hc, hs⟩
      have h2b := h2.keep hs.turn h3
      refine ⟨_, rfl, flag_here rfl ⟨fD2, fK1, ?_, ?_, h3.left hs h2.lt, h4.trans (hs.orL fK1)⟩, rfl⟩
      · have e : (flags [3, 7] (listed.setIfInBounds 3 true)).getD 0 false = true := set_self_true listed 3
        rw [e, if_pos rfl]; exact hc
      · have e : (flags [3, 7] (listed.setIfInBounds 3 true)).getD 1 false = (flags [3, 7] listed).getD 1 false := getD_set_ne true (by decide)
        rw [e]; exact h2b
    · intro listed a W H hw hl hd
      have t1 : a.tmps.getD 1 undef = .pointer (some ⟨gK, 0, none⟩) := (H.old 1 (by kernel_rfl)).trans rfl
      exact step2_value (i := 4) rfl rfl (run_op_move rfl t1) (flag_later rfl (later_refl _)) rfl
    · intro listed a W H hw hl hd
      have t5 : a.tmps.getD 5 undef = .pointer (some ⟨gx, 0, none⟩) := (H.old 5 (by kernel_rfl)).trans rfl
      exact step2_value (i := 5) rfl rfl (run_op_fieldAddr rfl t5 (run_a_field4 gx W)) (flag_later rfl (later_refl _)) rfl
    · intro listed a W H hw hl hd
      have t93 : a.tmps.getD 93 undef = .pointer (some ⟨gx, 4, none⟩) := H.get 5 93 (by kernel_rfl) (dep_of hd 5 (by kernel_rfl)) (alive_none (by kernel_rfl))
      exact step2_value (i := 6) rfl rfl (run_op_load rfl t93 ((by obtain ⟨fD1, fK1, h1, h2, h3, h4⟩ := hw; exact run_bools_load _ ka kn kc W (PD.out.step h4).c4))) (flag_later rfl (later_refl _)) rfl
    · intro listed a W H hw hl hd
      have t92 : a.tmps.getD 92 undef = .pointer (some ⟨gK, 0, none⟩) := H.get 4 92 (by kernel_rfl) (dep_of hd 4 (by kernel_rfl)) (alive_none (by kernel_rfl))
      have t94 : a.tmps.getD 94 undef = .slice ka kn kc := H.get 6 94 (by kernel_rfl) (dep_of hd 6 (by kernel_rfl)) (alive_none (by kernel_rfl))
      refine step2_call (i := 7) rfl rfl (run_op_call (vs := #[.pointer (some ⟨gK, 0, none⟩), .slice ka kn kc]) Try.func32 (by kernel_rfl) (by kernel_rfl) rfl (by simp only [List.map_toArray, List.map_cons, List.map_nil]; show #[a.tmps.getD 92 undef, a.tmps.getD 94 undef] = _; rw [t92, t94])) ?_
      obtain ⟨fD1, fK1, h1, h2, h3, h4⟩ := hw
      have hTU := h4.turn.below (B := base) (fun b hb => BD.out.ge b hb) BD.out.d.base_le
      have hLK := (HK.out.below (HLK.out.trans (HDL.out.mono (Nat.le_trans HBASE.out HL0.out.size)))).below hTU
      have hKW : boolK.Lie W W.heap.size ka kn keep := hLK.wider (Nat.le_trans BD.out.d.base_le h4.size)
      have hl0 : (flags [3, 7] listed).getD 1 false = false := hl
      rw [hl0, if_neg (by decide)] at h2
      refine (rcrash_any ka kn kc keep h2 hkn hKW (lie_apart hLK h2.ge)).mono ?_
      rintro e W2 ⟨rfl, fK2, hc, hs⟩
      rw [HSA.out] at hc
      rw [HSM.out]
      have h1b := h1.keep hs.turn h3.flip
      refine ⟨_, rfl, flag_here rfl ⟨fD1, fK2, ?_, ?_, h3.right hs h1.lt, h4.trans (hs.orR fD1)⟩, rfl⟩
      · have e : (flags [3, 7] (listed.setIfInBounds 7 true)).getD 0 false = (flags [3, 7] listed).getD 0 false := getD_set_ne true (by decide)
        rw [e]; exact h1b
      · have e : (flags [3, 7] (listed.setIfInBounds 7 true)).getD 1 false = true := set_self_true listed 7
        rw [e, if_pos rfl]; exact hc
    · intro listed a W H hw hl hd
      have t91 : a.tmps.getD 91 undef = .int .i64 (m : Int) := H.get 3 91 (by kernel_rfl) (dep_of hd 3 (by kernel_rfl)) (alive_none (by kernel_rfl))
      have t95 : a.tmps.getD 95 undef = .int .i64 (m : Int) := H.get 7 95 (by kernel_rfl) (dep_of hd 7 (by kernel_rfl)) (alive_none (by kernel_rfl))
      exact step2_value (i := 8) rfl rfl (run_op_bin rfl t91 t95 (run_eqi _ _ (m : Int) W)) (flag_later rfl (later_refl _)) rfl
    · intro listed a W H hw hl hd
      have t96 : a.tmps.getD 96 undef = .bool true := H.get 8 96 (by kernel_rfl) (dep_of hd 8 (by kernel_rfl)) (alive_none (by kernel_rfl))
      exact step2_value (i := 9) rfl rfl (run_op_assign rfl t96) (flag_later rfl (later_refl _)) rfl

  · intro a WC hdef hsz hw hall hact
    obtain ⟨u, hu⟩ : ∃ u : Nat → Value, ∀ k, a.tmps.getD k undef = u k := ⟨_, fun _ => rfl⟩
    have h6 : u 6 = .bool true := by rw [← hu]; exact hall 9 _ rfl (by kernel_rfl)
    simp only [hu] at hact
    have hact' : a = ([88, 89, 90, 91, 92, 93, 94, 95, 96, 6] : List Nat).foldl (fun b k => b.put (some k) (u k)) _ := hact
    simp only [List.foldl] at hact'
    simp only [Act.put, List.setIfInBounds_toArray, List.set_cons_succ, List.set_cons_zero] at hact'
    have HAC := Lib.hid hact'
    have HX := Lib.hid hw
    clear hu hact hact' hall hdef hsz hw
    rw [h6] at HAC
    rw [HAC.out]
    go_wp2_with fail
    go_ret
    obtain ⟨fD', fK', r1, r2, r3, r4⟩ := HX.out
    rw [if_pos (show (List.map (fun _ : Nat => true) [3, 7]).getD 0 false = true from rfl)] at r1
    rw [if_pos (show (List.map (fun _ : Nat => true) [3, 7]).getD 1 false = true from rfl)] at r2
    rw [← HSA.out] at r1 r2
    exact ⟨rfl, fD', fK', ⟨r1, r2, r3⟩, ((Moves.of_below HL0.out).trans (Moves.of_below HDL.out)).trans r4⟩
theorem lent_own {w wr : World} {n : Nat} {bs : List Nat} (h : Lent w wr n 3 bs) (hl : bs.length = n) (hsm : ∀ k, bs.getD k 0 < 256) (hn : n ≤ 900) : Own wr w.heap.size (some ⟨w.heap.size, 0, none⟩) n (n + 3) bs := by
  obtain ⟨cur, h1, h2, h3, h4⟩ := h.row
  refine ⟨⟨by simp [cellsOf, hl], Or.inr ⟨w.heap.size, n + 3, cur, rfl, Nat.le_refl _, h1, by omega, by unfold maxLen; omega, by omega, ?_⟩⟩, hsm⟩
  apply List.ext_getElem?
  intro k
  rw [Nat.mul_one]
  by_cases hk : k < n
  · rw [List.getElem?_take_of_lt hk]
    have e := h3 k hk
    rw [← Array.getElem?_toList] at e
    rw [e]
    simp [cellsOf, byteAt, List.getElem?_eq_getElem (show k < bs.length by omega), List.getD_eq_getElem?_getD]
  · rw [List.getElem?_eq_none (by rw [List.length_take]; omega), List.getElem?_eq_none (by simp [cellsOf]; omega)]
theorem ErrAt.mono {fp fq : Nat → Prop} {w : World} {k : Int} {v : Value} (h : ErrAt fp w k v) (hf : ∀ b, fq b → fp b) : ErrAt fq w k v := by
  rcases h with h | ⟨h0, g, s, e, h1, h2, h3⟩
  · exact Or.inl h
  · exact Or.inr ⟨h0, g, s, e, h1, h2, fun h => h3 (hf g h)⟩
/-- What holds while the document's own disk is written to, at some place of the region. -/
def WriteI (WD : World) (base : Nat) (fK : Nat → Prop) (gK : Nat) (s s' : RD) (fs : List Bool) (W : World) : Prop :=
  ∃ fK', RefAt W base fK' gK (if fs.getD 0 false = true then s' else s) ∧ Moves WD fK W fK'
theorem writeI_later (fs : List Bool) (x y : World) (h : WriteI WD base fK gK s s' fs x) (hb : Later x y) : WriteI WD base fK gK s s' fs y := by
  obtain ⟨fK', h1, h2⟩ := h
  exact ⟨fK', h1.since hb, h2.trans (Moves.of_below hb)⟩
set_option maxHeartbeats 16000000 in
set_option maxRecDepth 20000 in
theorem done_write (at_ nn : Int) (sh : Bool) (ka : Option Addr) (kn kc : Nat) (hB : Both w base fD fK gD gK s) (hm : s.W.length < 1000) (hz1 : 1 ≤ s.size) :
    Calls Try.prog 10 #[.pointer (some ⟨gD, 0, none⟩), .pointer (some ⟨gK, 0, none⟩), .agg #[.int .i64 1, .int .i64 at_, .int .i64 nn, .bool sh, .slice ka kn kc]] w (Done w base fD fK gD gK (afterWrite s at_ (fillL nn (if sh = true then s.size - 1 else s.size)))) := by
  obtain ⟨W0, HW0⟩ : ∃ W0, Hid (W0 = w.alloc (.cells #[.int .i64 1, .int .i64 at_, .int .i64 nn, .bool sh, .slice ka kn kc] 31)) := ⟨_, rfl⟩
  have P0 : Box9 (Or2 fD fK) W0 w.heap.size ⟨1, at_, nn, sh, ka, kn, kc⟩ := by rw [HW0.out]; exact Box9.new w ⟨1, at_, nn, sh, ka, kn, kc⟩ hB.lt
  have L0 : Below w.heap.size w W0 := by rw [HW0.out]; exact later_alloc _ _
  have B0 := Lib.hid (hB.since L0)
  have HL0 := Lib.hid L0
  have HP0 := Lib.hid P0
  obtain ⟨gx, HGX⟩ : ∃ gx, Hid (w.heap.size = gx) := ⟨_, rfl⟩
  have c0 := P0.c0
  have c1 := P0.c1
  have c2 := P0.c2
  have c3 := P0.c3
  have hz2 := hB.r.size_le
  have d3 := B0.out.r.size_cell
  obtain ⟨z, HZ⟩ : ∃ z : Nat, Hid (s.size = z) := ⟨_, rfl⟩
  rw [HZ.out] at d3 hz1 hz2 ⊢
  have HM := Lib.hid hm
  have HBO := Lib.hid hB
  clear P0 L0 hm hB
  dsimp only at c0 c1 c2 c3
  obtain ⟨zz, HZZ⟩ : ∃ zz : Nat, Hid ((if sh = true then z - 1 else z) = zz) := ⟨_, rfl⟩
  have hzz : zz ≤ 256 := by have h := HZZ.out; split at h <;> omega
  rw [HZZ.out]
  have HT : Hid (sh = true → (z : Int) - 1 = (zz : Int)) := fun h => by have h2 := HZZ.out; rw [if_pos h] at h2; omega
  have HF : Hid (sh = false → (z : Int) = (zz : Int)) := fun h => by have h2 := HZZ.out; rw [if_neg (by rw [h]; decide)] at h2; omega
  have hwr : IntKind.i64.wrap ((z : Int) - 1) = (z : Int) - 1 := by rw [IntKind.wrap_i64]; omega
  rw [HW0.out] at c0 c1 c2 c3 d3
  rcases hsh : sh with _ | _
  all_goals
    rw [hsh] at c0 c1 c2 c3 d3 HW0
    go_enter Try.func10, Try.ntmps10
    go_wp2_with fail
    first | rw [HT.out hsh] | rw [HF.out hsh]
    rw [← HW0.out, HGX.out]
    clear c0 c1 c2 c3 d3 hwr
    refine (fill_any nn zz W0 (by omega)).mono ?_
    rintro e W1 ⟨A1, n1, q1, rfl, ho1, hb1⟩
    obtain rfl : zz = n1 := by rw [← ho1.len, fillL_len]
    obtain ⟨bs, HBS⟩ : ∃ bs, Hid (fillL nn zz = bs) := ⟨_, rfl⟩
    rw [HBS.out] at ho1 ⊢
    have B1 := Lib.hid (B0.out.since hb1)
    have P1 := Lib.hid (HP0.out.since hb1)
    have S1 := Lib.hid (below_chain HL0.out hb1)
    have O1 := Lib.hid ho1
    have HL1 : Hid (W0.heap.size ≤ W1.heap.size) := hb1.size
    clear ho1 hb1
    go_wp2_with fail
    refine (lend_any A1 zz q1 bs W1 (by omega) O1.out.bytes).mono ?_
    rintro e W2 ⟨rfl, hl2⟩
    have OL2 := Lib.hid (lent_own hl2 O1.out.len O1.out.small (by omega))
    have B2 := Lib.hid (B1.out.since hl2.below)
    have P2 := Lib.hid (P1.out.since hl2.below)
    have S2 := Lib.hid (below_chain S1.out hl2.below)
    have HLT : Hid (W1.heap.size < W2.heap.size) := hl2.lt
    clear hl2
    obtain ⟨gl, HGL⟩ : ∃ gl, Hid (W1.heap.size = gl) := ⟨_, rfl⟩
    have hnD : ∀ b, Or2 fD fK b → b ≠ W1.heap.size := fun b hb e => by have := B1.out.lt b hb; omega
    have HND := Lib.hid hnD
    have c1 := P2.out.c1
    dsimp only at c1
    have hx0 : w.heap.size < W0.heap.size := by rw [HW0.out]; simp
    have hxl : w.heap.size < W1.heap.size := Nat.lt_of_lt_of_le hx0 HL1.out
    have HXL := Lib.hid hxl
    rw [HGX.out] at c1 P2 HXL
    rw [HGL.out] at OL2 HND ⊢
    clear hnD hxl hx0
    go_wp2_with fail
    refine (dwrite_any at_ (some ⟨gl, 0, none⟩) zz (zz + 3) bs B2.out.d HM.out OL2.out.bytes (fun b hb hf => HND.out b (Or.inl hf) (by simpa [blk] using hb)) (by omega)).mono ?_
    obtain ⟨s2, q, HS2⟩ : ∃ s2 q, Hid ((afterWrite s at_ bs, writeO s at_ bs.length) = (s2, q)) := ⟨_, _, rfl⟩
    have HSA : Hid (afterWrite s at_ bs = s2) := congrArg Prod.fst HS2.out
    have HSQ : Hid (writeO s at_ bs.length = q) := congrArg Prod.snd HS2.out
    rw [HS2.out]
    rintro e W3 ⟨v3, fD3, rfl, he3, hc3, hs3⟩
    dsimp only at he3 hc3
    have D3 := Lib.hid hc3
    have R3 := Lib.hid (B2.out.r.keep hs3.turn B2.out.two)
    have T3 := Lib.hid (B2.out.two.left hs3 B2.out.r.lt)
    have M3 := Lib.hid ((Moves.of_below (fp := Or2 fD fK) S2.out).trans (hs3.orL fK))
    have P3 := Lib.hid (P2.out.step (hs3.orL fK))
    have OL3 := Lib.hid (OL2.out.at_block fun b hb => hs3.turn.block b (OL2.out.blk_lt b hb) fun hf => HND.out b (Or.inl hf) (by simpa [blk] using hb))
    have N3 : Hid (∀ b, Or2 fD3 fK b → b ≠ gl) := fun b hb e => by
      rcases hb with hb | hb
      · rcases hs3.grows b hb with h | h
        · exact HND.out b (Or.inl h) e
        · have h2 := HLT.out; have h3 := HGL.out; omega
      · exact HND.out b (Or.inr hb) e
    have E3 : Hid (ErrAt (fun b => b = gl ∨ Or2 fD3 fK b) W3 q v3) := by
      rcases he3 with h | ⟨h0, g, st, e, h1, h2, h3, h4⟩
      · exact Or.inl h
      · refine Or.inr ⟨h0, g, st, e, h1, h2, fun hf => ?_⟩
        rcases hf with hf | hf | hf
        · have h5 := HLT.out; have h6 := HGL.out; omega
        · exact h4 hf
        · have := B2.out.r.lt g hf; omega
    have HL3 : Hid (W1.heap.size ≤ W3.heap.size) := Nat.le_trans (Nat.le_of_lt HLT.out) hs3.size
    clear he3 hc3 hs3 c1
    go_wp2_with fail
    refine (over_any (some ⟨gl, 0, none⟩) zz (zz + 3) gl bs W3 (by omega) (HGL.out ▸ HL3.out) OL3.out).mono ?_
    rintro e W4 ⟨rfl, hg4⟩
    have hT4 : Turn (fun b => b = gl) W3 W4 := Turn.of_grown hg4 fun b hb => by have := blk_own.1 hb; simpa [blk] using this
    have D4 := Lib.hid (D3.out.keep hT4 fun b h1 h2 => N3.out b (Or.inl h2) h1)
    have R4 := Lib.hid (R3.out.keep hT4 fun b h1 h2 => N3.out b (Or.inr h2) h1)
    have M4 : Hid (Moves w (Or2 fD fK) W4 (Or2 fD3 fK)) := ⟨M3.out.turn.trans hT4 fun b hb => Or.inr (by have h1 := HXL.out; have h2 := HGL.out; have h3 := S1.out.size; omega), M3.out.grows⟩
    have P4 : Hid (Box9 (Or2 fD3 fK) W4 gx ⟨1, at_, nn, sh, ka, kn, kc⟩) := by
      exact ⟨P3.out.row.keep hT4 fun e => by have h1 := HXL.out; have h2 := HGL.out; omega⟩
    have E4 := Lib.hid ((E3.out.step (fp' := fun b => b = gl ∨ Or2 fD3 fK b) ⟨hT4.mono fun b hb => Or.inl (Or.inl hb), fun b hb => Or.inl hb⟩).mono (fq := Or2 fD3 fK) fun b hb => Or.inr hb)
    clear hT4 hg4
    go_wp2_with fail
    obtain ⟨WD, HWD⟩ : ∃ W, Hid (W = W4.drew) := ⟨_, rfl⟩
    have HDL : Hid (Later W4 WD) := by rw [HWD.out]; exact (Below.refl _ _).drew
    have DD := Lib.hid (D4.out.since HDL.out)
    have RD_ := Lib.hid (R4.out.since HDL.out)
    have PD := Lib.hid (P4.out.since HDL.out)
    have ED := Lib.hid (E4.out.step (Moves.of_below (fp := Or2 fD3 fK) HDL.out))
    refine region_of_flags (by kernel_rfl) [.is (v3), .is (.int .i64 q), .is (.pointer (some ⟨gK, 0, none⟩)), .is (.pointer (some ⟨gx, 1, none⟩)), .is (.int .i64 at_), .is (.pointer (some ⟨gx, 2, none⟩)), .is (.int .i64 nn), .is (.int .i64 (zz : Int)), .own WD.heap.size zz bs, .is (.int .i64 q), .is (.bool true), .is (.bool true)] [(8, 9)] [9] (WriteI WD base fK gK s s2) (by kernel_rfl) (by kernel_rfl) (by kernel_rfl) (fun fs x y h hb => writeI_later fs x y h hb) (by rw [← HWD.out]; exact ⟨fK, RD_.out, Moves.refl _ _⟩) ?_ ?_
    · refine Steps6.cons ?_ (Steps6.cons ?_ (Steps6.cons ?_ (Steps6.cons ?_ (Steps6.cons ?_ (Steps6.cons ?_ (Steps6.cons ?_ (Steps6.cons ?_ (Steps6.cons ?_ (Steps6.cons ?_ (Steps6.cons ?_ (Steps6.cons ?_ (Steps6.nil))))))))))))
      · intro listed a W H hw hl hd
        have t14 : a.tmps.getD 14 undef = v3 := (H.old 14 (by kernel_rfl)).trans rfl
        exact step2_value (i := 0) rfl rfl (run_op_move rfl t14) (flag_later rfl (later_refl _)) rfl
      · intro listed a W H hw hl hd
        have t67 : a.tmps.getD 67 undef = v3 := H.get 0 67 (by kernel_rfl) (dep_of hd 0 (by kernel_rfl)) (alive_none (by kernel_rfl))
        refine step2_call (i := 1) rfl rfl (run_op_call (vs := #[v3]) Try.func17 (by kernel_rfl) (by kernel_rfl) rfl (by simp only [List.map_toArray, List.map_cons, List.map_nil]; show #[a.tmps.getD 67 undef] = _; rw [t67])) ?_
        obtain ⟨fK1, h1, h2⟩ := hw
        refine (err_num (ED.out.step (h2.orR fD3))).mono ?_
        rintro e w' ⟨rfl, rfl⟩
        exact ⟨_, rfl, flag_later rfl (later_refl _), rfl⟩
      · intro listed a W H hw hl hd
        have t1 : a.tmps.getD 1 undef = .pointer (some ⟨gK, 0, none⟩) := (H.old 1 (by kernel_rfl)).trans rfl
        exact step2_value (i := 2) rfl rfl (run_op_move rfl t1) (flag_later rfl (later_refl _)) rfl
      · intro listed a W H hw hl hd
        have t5 : a.tmps.getD 5 undef = .pointer (some ⟨gx, 0, none⟩) := (H.old 5 (by kernel_rfl)).trans rfl
        exact step2_value (i := 3) rfl rfl (run_op_fieldAddr rfl t5 (run_a_field1 gx W)) (flag_later rfl (later_refl _)) rfl
      · intro listed a W H hw hl hd
        have t70 : a.tmps.getD 70 undef = .pointer (some ⟨gx, 1, none⟩) := H.get 3 70 (by kernel_rfl) (dep_of hd 3 (by kernel_rfl)) (alive_none (by kernel_rfl))
        exact step2_value (i := 4) rfl rfl (run_op_load rfl t70 ((by obtain ⟨fK1, h1, h2⟩ := hw; exact run_int_load _ at_ W (PD.out.step (h2.orR fD3)).c1))) (flag_later rfl (later_refl _)) rfl
      · intro listed a W H hw hl hd
        have t5 : a.tmps.getD 5 undef = .pointer (some ⟨gx, 0, none⟩) := (H.old 5 (by kernel_rfl)).trans rfl
        exact step2_value (i := 5) rfl rfl (run_op_fieldAddr rfl t5 (run_a_field2 gx W)) (flag_later rfl (later_refl _)) rfl
      · intro listed a W H hw hl hd
        have t72 : a.tmps.getD 72 undef = .pointer (some ⟨gx, 2, none⟩) := H.get 5 72 (by kernel_rfl) (dep_of hd 5 (by kernel_rfl)) (alive_none (by kernel_rfl))
        exact step2_value (i := 6) rfl rfl (run_op_load rfl t72 ((by obtain ⟨fK1, h1, h2⟩ := hw; exact run_int_load _ nn W (PD.out.step (h2.orR fD3)).c2))) (flag_later rfl (later_refl _)) rfl
      · intro listed a W H hw hl hd
        have t12 : a.tmps.getD 12 undef = .int .i64 (zz : Int) := (H.old 12 (by kernel_rfl)).trans rfl
        exact step2_value (i := 7) rfl rfl (run_op_move rfl t12) (flag_later rfl (later_refl _)) rfl
      · intro listed a W H hw hl hd
        have t73 : a.tmps.getD 73 undef = .int .i64 nn := H.get 6 73 (by kernel_rfl) (dep_of hd 6 (by kernel_rfl)) (alive_none (by kernel_rfl))
        have t74 : a.tmps.getD 74 undef = .int .i64 (zz : Int) := H.get 7 74 (by kernel_rfl) (dep_of hd 7 (by kernel_rfl)) (alive_none (by kernel_rfl))
        refine step2_call (i := 8) rfl rfl (run_op_call (vs := #[.int .i64 nn, .int .i64 (zz : Int)]) Try.func21 (by kernel_rfl) (by kernel_rfl) rfl (by simp only [List.map_toArray, List.map_cons, List.map_nil]; show #[a.tmps.getD 73 undef, a.tmps.getD 74 undef] = _; rw [t73, t74])) ?_
        obtain ⟨fK1, h1, h2⟩ := hw
        refine (fill_any nn zz W (by omega)).mono ?_
        rintro e W2 ⟨A2, n2, c2, rfl, ho, hb⟩
        obtain rfl : zz = n2 := by rw [← ho.len, fillL_len]
        rw [HBS.out] at ho
        exact ⟨_, rfl, flag_later rfl hb, A2, c2, rfl, ho.elder h2.size⟩
      · intro listed a W H hw hl hd
        have t69 : a.tmps.getD 69 undef = .pointer (some ⟨gK, 0, none⟩) := H.get 2 69 (by kernel_rfl) (dep_of hd 2 (by kernel_rfl)) (alive_none (by kernel_rfl))
        have t71 : a.tmps.getD 71 undef = .int .i64 at_ := H.get 4 71 (by kernel_rfl) (dep_of hd 4 (by kernel_rfl)) (alive_none (by kernel_rfl))
        obtain ⟨A75, q75, t75, o75⟩ := H.get 8 75 (by kernel_rfl) (dep_of hd 8 (by kernel_rfl)) (alive_now (m := 9) (by kernel_rfl) (H.notyets 4 hl (by kernel_rfl)))
        refine step2_call (i := 9) rfl rfl (run_op_call (vs := #[.pointer (some ⟨gK, 0, none⟩), .int .i64 at_, .slice A75 zz q75]) Try.func31 (by kernel_rfl) (by kernel_rfl) rfl (by simp only [List.map_toArray, List.map_cons, List.map_nil]; show #[a.tmps.getD 69 undef, a.tmps.getD 71 undef, a.tmps.getD 75 undef] = _; rw [t69, t71, t75])) ?_
        obtain ⟨fK1, h1, h2⟩ := hw
        have hl0 : (flags [9] listed).getD 0 false = false := hl
        rw [hl0, if_neg (by decide)] at h1
        refine (rwrite_any at_ A75 zz q75 bs h1 HM.out (by omega) o75.bytes).mono ?_
        rw [HSA.out, HSQ.out]
        rintro e W2 ⟨rfl, fK2, hc, hs⟩
        refine ⟨_, rfl, flag_here rfl ⟨fK2, ?_, h2.trans hs⟩, rfl⟩
        have e : (flags [9] (listed.setIfInBounds 9 true)).getD 0 false = true := set_self_true listed 9
        rw [e, if_pos rfl]; exact hc
      · intro listed a W H hw hl hd
        have t68 : a.tmps.getD 68 undef = .int .i64 q := H.get 1 68 (by kernel_rfl) (dep_of hd 1 (by kernel_rfl)) (alive_none (by kernel_rfl))
        have t76 : a.tmps.getD 76 undef = .int .i64 q := H.get 9 76 (by kernel_rfl) (dep_of hd 9 (by kernel_rfl)) (alive_none (by kernel_rfl))
        exact step2_value (i := 10) rfl rfl (run_op_bin rfl t68 t76 (run_eqi _ _ q W)) (flag_later rfl (later_refl _)) rfl
      · intro listed a W H hw hl hd
        have t77 : a.tmps.getD 77 undef = .bool true := H.get 10 77 (by kernel_rfl) (dep_of hd 10 (by kernel_rfl)) (alive_none (by kernel_rfl))
        exact step2_value (i := 11) rfl rfl (run_op_assign rfl t77) (flag_later rfl (later_refl _)) rfl

    · intro a WC hdef hsz hw hall hact
      obtain ⟨u, hu⟩ : ∃ u : Nat → Value, ∀ k, a.tmps.getD k undef = u k := ⟨_, fun _ => rfl⟩
      have h6 : u 6 = .bool true := by rw [← hu]; exact hall 11 _ rfl (by kernel_rfl)
      simp only [hu] at hact
      have hact' : a = ([67, 68, 69, 70, 71, 72, 73, 74, 75, 76, 77, 6] : List Nat).foldl (fun b k => b.put (some k) (u k)) _ := hact
      simp only [List.foldl] at hact'
      simp only [Act.put, List.setIfInBounds_toArray, List.set_cons_succ, List.set_cons_zero] at hact'
      have HAC := Lib.hid hact'
      have HX := Lib.hid hw
      clear hu hact hact' hall hdef hsz hw
      rw [h6] at HAC
      rw [HAC.out]
      go_wp2_with fail
      go_ret
      obtain ⟨fK', r1, r2⟩ := HX.out
      rw [if_pos (show (List.map (fun _ : Nat => true) [9]).getD 0 false = true from rfl)] at r1
      rw [HBS.out, HSA.out]
      exact ⟨rfl, fD3, fK', ⟨DD.out.keep r2.turn T3.out.flip, r1, T3.out.right r2 DD.out.lt⟩, (M4.out.trans (Moves.of_below HDL.out)).trans (r2.orR fD3)⟩
end
end Go.Proofs.Ytfhfjfgajbgdcaa
