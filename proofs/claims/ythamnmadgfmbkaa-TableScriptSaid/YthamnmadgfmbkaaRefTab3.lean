/- The document's own table: Put, Drop. Conditions: its cells. -/
import Derived.Test.YthamnmadgfmbkaaRefTab
import Derived.Test.YthamnmadgfmbkaaInsK
set_option linter.unusedVariables false
set_option linter.unusedSimpArgs false
namespace Go.Proofs.Ythamnmadgfmbkaa
open Go.RowKit

theorem run_tab_list (g : Nat) (w : World) : (Instr.fieldAt 29 (.pointer (some ⟨g, 0, none⟩)) 0).run Try.prog w = .ok (.pointer (some ⟨g, 0, none⟩)) w := by go_simp
theorem run_store_ents (g n c n' c' : Nat) (A A' : Option Addr) (w : World) (hc : w.cell? ⟨g, 0, none⟩ = some (.slice A n c)) (hf : w.frozen? ⟨g, 0, none⟩ = false) : (Instr.storeAt 27 (.pointer (some ⟨g, 0, none⟩)) (.slice A' n' c')).run Try.prog w = .ok () (w.setCell ⟨g, 0, none⟩ (.slice A' n' c')) := by go_simp
section
variable {w w' W : World} {base g n c k m : Nat} {A : Option Addr} {l l' : List E} {fp fq : Nat → Prop}
/-- What the store of another list leaves. -/
theorem RTab.stored (h : RTab w base g l A n c) (hp : PutK entK w g m l' W) : ∃ A' c', RTab W base g l' A' m c' ∧ (∀ b ∈ blk A', w.heap.size ≤ b) ∧ Turn (fun b => b = g) w W := by
  obtain ⟨A', c', W3, h1, h2, h3⟩ := hp.ex
  have hg := h.lt
  have hrow3 : W3.heap[g]? = some (.cells #[.slice A n c] 29 (0, 0)) := (h2.block g hg).trans h.row
  have hne : ∀ b ∈ blk A', b ≠ g := fun b hb e => by have := Row.blk_ge h1 b hb; omega
  have h4 : RTab (W3.setCell ⟨g, 0, none⟩ (.slice A' m c')) base g l' A' m c' := by
    refine ⟨h.base_le, by simp [World.setCell, Array.getElem?_modify, hrow3], ?_⟩
    refine Row.at_block (h1.elder (Nat.le_trans h.base_le (Nat.le_of_lt hg))) fun b hb => setCell_heap _ _ _ _ _ (hne b hb)
  exact ⟨A', c', h4.since h3, fun b hb => Row.blk_ge h1 b hb, ((Turn.of_below h2).trans (Turn.of_setCell (fp := fun b => b = g) _ _ rfl) (fun b hb => Or.inl hb)).trans (Turn.of_below (fp := fun _ => False) h3) (fun b hb => hb.elim)⟩
/-- What a call leaves that turned it: it stands again, in its blocks and in new ones. -/
theorem RefTb.turned {A' : Option Addr} {n' c' : Nat} (hR : RefTb w base fp g l) (h1 : RTab w' base g l' A' n' c') (h2 : ∀ b ∈ blk A', fp b ∨ w.heap.size ≤ b) (hw : TW l') (ht : Turn fp w w') : ∃ fp', RefTb w' base fp' g l' ∧ Moves w fp w' fp' := by
  have hbw := hR.base_le
  refine ⟨fun b => fp b ∨ (w.heap.size ≤ b ∧ b < w'.heap.size), ⟨hw, Or.inl hR.own, fun b hb => ?_, fun b hb => ?_, ⟨A', n', c', h1, fun b hb => (h2 b hb).imp id fun h => ⟨h, Row.blk_lt h1.lr b hb⟩⟩⟩, ht, fun b hb => hb.imp id fun h => h.1⟩
  · exact hb.elim (hR.ge b) fun h => Nat.le_trans hbw h.1
  · exact hb.elim (fun h => Nat.lt_of_lt_of_le (hR.lt b h) ht.size) fun h => h.2
end
def RLeads (w : World) (base : Nat) (fp : Nat → Prop) (g : Nat) (l : List E) (o : Option E) (e : Ending) (w' : World) : Prop :=
  ∃ fp', e = .returned (pairO o) ∧ RefTb w' base fp' g l ∧ Moves w fp w' fp'
theorem RTab.keep_at {w W : World} {base g n c b0 : Nat} {A : Option Addr} {l : List E} (h : RTab w base g l A n c) (hg : g ≠ b0) (hA : b0 ∉ blk A) (hk : ∀ b, b ≠ b0 → W.heap[b]? = w.heap[b]?) : RTab W base g l A n c :=
  ⟨h.base_le, (hk g hg).trans h.row, Row.at_block h.lr fun b hb => hk b fun e => hA (e ▸ hb)⟩
theorem ref_fin {w W : World} {base g n' c' b0 : Nat} {fp : Nat → Prop} {A' : Option Addr} {l l' : List E} (hR : RefTb w base fp g l) (hT : RTab W base g l' A' n' c') (hA : ∀ b ∈ blk A', fp b ∨ w.heap.size ≤ b) (h0 : b0 ∉ blk A') (hg : g ≠ b0) (hw0 : w.heap.size ≤ b0) (ht : Turn fp w W) (hw : TW l') (a b c d : Value) :
    ∃ fp', RefTb ((((W.setCell ⟨b0, 0, none⟩ a).setCell ⟨b0, 1, none⟩ b).setCell ⟨b0, 2, none⟩ c).setCell ⟨b0, 3, none⟩ d) base fp' g l' ∧ Moves w fp ((((W.setCell ⟨b0, 0, none⟩ a).setCell ⟨b0, 1, none⟩ b).setCell ⟨b0, 2, none⟩ c).setCell ⟨b0, 3, none⟩ d) fp' := by
  have hgr := putEn_else W b0 a b c d
  have h9 := hT.keep_at (W := (((W.setCell ⟨b0, 0, none⟩ a).setCell ⟨b0, 1, none⟩ b).setCell ⟨b0, 2, none⟩ c).setCell ⟨b0, 3, none⟩ d) hg h0 fun q hq => (setCell_heap _ _ _ _ _ hq).trans ((setCell_heap _ _ _ _ _ hq).trans ((setCell_heap _ _ _ _ _ hq).trans (setCell_heap _ _ _ _ _ hq)))
  exact hR.turned h9 hA hw (ht.trans (Turn.of_grown (fp := fun q => q = b0) hgr fun q e => (Option.some.inj e).symm) fun q hq => Or.inr (by rw [hq]; exact hw0))
section
variable {w : World} {base g : Nat} {fp : Nat → Prop} {l : List E}
set_option maxHeartbeats 16000000 in
set_option maxRecDepth 20000 in
theorem refput_any (x : E) (hx : EWf x) (h : RefTb w base fp g l) (hl : l.length < 120) : Calls Try.prog 11 #[.pointer (some ⟨g, 0, none⟩), entV x] w (RLeads w base fp g (putT l x) (getT l x.addr)) := by
  obtain ⟨A, n, c, hR, hI⟩ := h.ex
  have HD := Lib.hid h
  have HI := Lib.hid hI
  have HLN : Hid (l.length = n) := hR.lr.len
  have HTW := Lib.hid (tw_put h.wf hx hl)
  obtain ⟨WA, HWA⟩ : ∃ WA, Hid (WA = w.alloc (.cells #[.int .u64 x.addr, .int .i64 x.page, .bool x.dirty, .int .i64 x.seq] 32)) := ⟨_, rfl⟩
  have SA : Hid (Below w.heap.size w WA) := by rw [HWA.out]; exact (Below.refl _ _).alloc (Nat.le_refl _) _
  have XA : Hid (RowEn WA w.heap.size x) := by rw [HWA.out]; exact rowEn_new w x
  obtain ⟨W0, HW0⟩ : ∃ W0, Hid (W0 = WA.alloc (.cells #[.int .u64 0, .int .i64 0, .bool false, .int .i64 0] 32)) := ⟨_, rfl⟩
  have hbA : Below WA.heap.size WA W0 := by rw [HW0.out]; exact (Below.refl _ _).alloc (Nat.le_refl _) _
  have S0 := Lib.hid (below_chain SA.out hbA)
  have X0 := Lib.hid (XA.out.since hbA)
  have R0 : Hid (RowEn W0 WA.heap.size E.zero) := by rw [HW0.out]; exact rowEn_new WA E.zero
  have HSZ : Hid (WA.heap.size = w.heap.size + 1) := by rw [HWA.out]; simp [Hid]
  have H0 := Lib.hid (hR.since S0.out)
  obtain ⟨b1, HB1⟩ : ∃ b1, Hid (w.heap.size = b1) := ⟨_, rfl⟩
  obtain ⟨b0, HB0⟩ : ∃ b0, Hid (WA.heap.size = b0) := ⟨_, rfl⟩
  have HBW : Hid (w.heap.size ≤ b0 ∧ b1 < b0) := by rw [← HB0.out, HSZ.out, HB1.out]; exact ⟨Nat.le_succ _, Nat.lt_succ_self _⟩
  rw [HB1.out] at X0
  rw [HB0.out] at R0
  have C := Lib.hid (refat_any x.addr H0.out h.wf.srt (by rw [← HLN.out]; exact Nat.le_of_lt hl))
  have x00 : (WA.alloc (.cells #[.int .u64 0, .int .i64 0, .bool false, .int .i64 0] 32)).cell? ⟨w.heap.size, 0, none⟩ = some (.int .u64 x.addr) := by rw [← HW0.out, HB1.out]; exact X0.out.at_.c0
  have HN4 : Hid (n < 120) := by rw [← HLN.out]; exact hl
  have HEW := Lib.hid hx
  have HB01 : Hid (b1 + 1 = b0) := by show _ = _; rw [← HB0.out, HSZ.out, HB1.out]
  clear h hR hI hl hbA SA XA HSZ hx
  unfold entV
  go_enter Try.func11, Try.ntmps11
  rw [HWA.out] at x00
  go_wp2_with fail
  rw [← HWA.out, ← HW0.out, HB1.out, HB01.out]
  clear x00 HWA HW0 HB01
  refine C.out.mono ?_
  rintro e W1 ⟨k, ok, rfl, hat, hb1⟩
  have HAT := Lib.hid hat
  have HBZ : Hid (b0 < W0.heap.size ∧ b1 < W0.heap.size ∧ g < b1) := ⟨R0.out.lt, X0.out.lt, by obtain ⟨A', n', c', h1, _⟩ := HD.out.ex; rw [← HB1.out]; exact h1.lt⟩
  have HSB : Hid (W0.heap.size ≤ W1.heap.size) := hb1.size
  have S1 := Lib.hid (below_chain S0.out hb1)
  have R1 := Lib.hid (R0.out.since hb1)
  have X1 := Lib.hid (X0.out.since hb1)
  have H1 := Lib.hid (H0.out.since hb1)
  have HKN : Hid (k ≤ n) := by have := HAT.out.le; rw [HLN.out] at this; exact this
  clear hat hb1 S0 R0 X0 H0 C HB0
  have k0 : (0 : Int) ≤ (k : Int) := by omega
  cases ok with
  | false =>
    have HG : Hid (getT l x.addr = none) := HAT.out.get
    rw [HG.out]
    go_wp2_with fail
    obtain ⟨WD, HWD⟩ : ∃ W, Hid (W = W1.drew) := ⟨_, rfl⟩
    have HDL : Hid (Below W1.heap.size W1 WD) := by rw [HWD.out]; exact (Below.refl _ _).drew
    have HRD := Lib.hid (H1.out.since HDL.out)
    have HBX := Lib.hid (X1.out.since HDL.out)
    have RD := Lib.hid (R1.out.since HDL.out)
    have SD := Lib.hid (below_chain S1.out HDL.out)
    have HCAP : Hid (n ≤ c) := HRD.out.lr.cap
    have HK8 : Hid (k ≤ 8000) := by have := HKN.out; have := HN4.out; show _ ≤ _; omega
    have HK9 : Hid (k + 1 ≤ 8000) := by have := HKN.out; have := HN4.out; show _ ≤ _; omega
    have HN9 : Hid (n + 1 ≤ 8000) := by have := HN4.out; show _ ≤ _; omega
    have LT : Hid (entK.Lie WD WD.heap.size A k (l.take k)) := HRD.out.lr.lie.first HKN.out
    have LD : Hid (entK.Lie WD WD.heap.size (if c = k then A else A.map (·.add (k * entK.k))) (n - k) (l.drop k)) := HRD.out.lr.lie.rest HKN.out HCAP.out
    clear H1 X1 R1 S1
    refine region_of_steps7 (by kernel_rfl) [some (.pointer (some ⟨g, 0, none⟩)), some (.pointer (some ⟨g, 0, none⟩)), some (.pointer (some ⟨g, 0, none⟩)), some (.pointer (some ⟨g, 0, none⟩)), some (.slice A n c), some (.int .i64 (k : Int)), some (.slice A k c), none, some (entV x), none, none, some (.pointer (some ⟨g, 0, none⟩)), some (.pointer (some ⟨g, 0, none⟩)), some (.pointer (some ⟨g, 0, none⟩)), some (.slice A n c), some (.int .i64 (k : Int)), some (.slice (if c = k then A else A.map (·.add (k * entK.k))) (n - k) (c - k)), none, some (.pointer (some ⟨g, 0, none⟩)), some (.pointer (some ⟨g, 0, none⟩)), none] [7, 9, 10, 17, 20] [39, 41, 42, 49] (InsK entK WD g k n l x) (by kernel_rfl) (by kernel_rfl) (by rw [← HWD.out]; exact InsK.start (by rw [slots_len]; rfl)) ?_ ?_
    · refine Steps7.cons ?_ (Steps7.cons ?_ (Steps7.cons ?_ (Steps7.cons ?_ (Steps7.cons ?_ (Steps7.cons ?_ (Steps7.cons ?_ (Steps7.cons ?_ (Steps7.cons ?_ (Steps7.cons ?_ (Steps7.cons ?_ (Steps7.cons ?_ (Steps7.cons ?_ (Steps7.cons ?_ (Steps7.cons ?_ (Steps7.cons ?_ (Steps7.cons ?_ (Steps7.cons ?_ (Steps7.cons ?_ (Steps7.cons ?_ (Steps7.cons ?_ (Steps7.nil)))))))))))))))))))))
      · intro listed a W H hj hl hd
        have t0 : a.tmps.getD 0 undef = .pointer (some ⟨g, 0, none⟩) := (H.old 0 (by kernel_rfl)).trans rfl
        exact step7_value (i := 0) rfl rfl (run_op_move rfl t0) (calm7 (fun fs vs x y h hl => InsK.later h hl) (by kernel_rfl) (by kernel_rfl) hj (later_refl _)) rfl
      · intro listed a W H hj hl hd
        have t0 : a.tmps.getD 0 undef = .pointer (some ⟨g, 0, none⟩) := (H.old 0 (by kernel_rfl)).trans rfl
        exact step7_value (i := 1) rfl rfl (run_op_move rfl t0) (calm7 (fun fs vs x y h hl => InsK.later h hl) (by kernel_rfl) (by kernel_rfl) hj (later_refl _)) rfl
      · intro listed a W H hj hl hd
        have t33 : a.tmps.getD 33 undef = .pointer (some ⟨g, 0, none⟩) := H.get 1 33 (by kernel_rfl) (dep_of hd 1 (by kernel_rfl)) (fun _ h => by cases h)
        exact step7_value (i := 2) rfl rfl (run_op_nilCheck rfl t33) (calm7 (fun fs vs x y h hl => InsK.later h hl) (by kernel_rfl) (by kernel_rfl) hj (later_refl _)) rfl
      · intro listed a W H hj hl hd
        have t34 : a.tmps.getD 34 undef = .pointer (some ⟨g, 0, none⟩) := H.get 2 34 (by kernel_rfl) (dep_of hd 2 (by kernel_rfl)) (fun _ h => by cases h)
        exact step7_value (i := 3) rfl rfl (run_op_fieldAddr rfl t34 (run_tab_list g W)) (calm7 (fun fs vs x y h hl => InsK.later h hl) (by kernel_rfl) (by kernel_rfl) hj (later_refl _)) rfl
      · intro listed a W H hj hl hd
        have t35 : a.tmps.getD 35 undef = .pointer (some ⟨g, 0, none⟩) := H.get 3 35 (by kernel_rfl) (dep_of hd 3 (by kernel_rfl)) (fun _ h => by cases h)
        exact step7_value (i := 4) rfl rfl (run_op_load rfl t35 (run_load_ents g n c A W (((hj.below (H.notyets 4 hl (by kernel_rfl) : (flags [7, 9, 10, 17, 20] listed).getD 4 false = false)).cell (p := ⟨g, 0, none⟩) HRD.out.lt).trans HRD.out.c0))) (calm7 (fun fs vs x y h hl => InsK.later h hl) (by kernel_rfl) (by kernel_rfl) hj (later_refl _)) rfl
      · intro listed a W H hj hl hd
        have t6 : a.tmps.getD 6 undef = .int .i64 (k : Int) := (H.old 6 (by kernel_rfl)).trans rfl
        exact step7_value (i := 5) rfl rfl (run_op_move rfl t6) (calm7 (fun fs vs x y h hl => InsK.later h hl) (by kernel_rfl) (by kernel_rfl) hj (later_refl _)) rfl
      · intro listed a W H hj hl hd
        have t36 : a.tmps.getD 36 undef = .slice A n c := H.get 4 36 (by kernel_rfl) (dep_of hd 4 (by kernel_rfl)) (fun _ h => by cases h)
        have t37 : a.tmps.getD 37 undef = .int .i64 (k : Int) := H.get 5 37 (by kernel_rfl) (dep_of hd 5 (by kernel_rfl)) (fun _ h => by cases h)
        exact step7_value (i := 6) rfl rfl (run_op_slice rfl (by show (Instr.sliceAt 27 (a.tmps.getD 36 undef) none (some (a.tmps.getD 37 undef)) none).run _ _ = _; rw [t36, t37]; rw [run_sliceAt_slice (h := Try.underlying27)]; exact (entK.slice_to A n c k HKN.out HCAP.out W))) (calm7 (fun fs vs x y h hl => InsK.later h hl) (by kernel_rfl) (by kernel_rfl) hj (later_refl _)) rfl
      · intro listed a W H hj hl hd
        have t38 : a.tmps.getD 38 undef = .slice A k c := H.get 6 38 (by kernel_rfl) (dep_of hd 6 (by kernel_rfl)) (fun _ h => by cases h)
        have f2 : (flags [7, 9, 10, 17, 20] listed).getD 2 false = false := H.notyets 4 hl (by kernel_rfl)
        have f3 : (flags [7, 9, 10, 17, 20] listed).getD 3 false = false := H.notyets 4 hl (by kernel_rfl)
        have f4 : (flags [7, 9, 10, 17, 20] listed).getD 4 false = false := H.notyets 4 hl (by kernel_rfl)
        obtain ⟨A9, c9, W9, hr, hk9⟩ := hj.first f2 f3 f4 LT.out HK8.out
        rw [← flags_put (m := 7) 0 rfl (by decide), ← slots_at (a := a) (d := 39) 0 rfl (by decide) (by rw [H.size]; exact of_decide_eq_true (by kernel_rfl))] at hk9
        exact step7_value (i := 7) rfl rfl (run_op_append rfl rfl t38 hr) hk9 trivial
      · intro listed a W H hj hl hd
        have t3 : a.tmps.getD 3 undef = .pointer (some ⟨b1, 0, none⟩) := (H.old 3 (by kernel_rfl)).trans rfl
        exact step7_value (i := 8) rfl rfl (run_op_load rfl t3 (run_load_ent b1 x W (HBX.out.since (hj.below (H.notyets 4 hl (by kernel_rfl) : (flags [7, 9, 10, 17, 20] listed).getD 4 false = false))))) (calm7 (fun fs vs x y h hl => InsK.later h hl) (by kernel_rfl) (by kernel_rfl) hj (later_refl _)) rfl
      · intro listed a W H hj hl hd
        have t40 : a.tmps.getD 40 undef = entV x := H.get 8 40 (by kernel_rfl) (dep_of hd 8 (by kernel_rfl)) (fun _ h => by cases h)
        have f2 : (flags [7, 9, 10, 17, 20] listed).getD 2 false = false := H.notyets 4 hl (by kernel_rfl)
        have f3 : (flags [7, 9, 10, 17, 20] listed).getD 3 false = false := H.notyets 4 hl (by kernel_rfl)
        have f4 : (flags [7, 9, 10, 17, 20] listed).getD 4 false = false := H.notyets 4 hl (by kernel_rfl)
        have hk9 := hj.build f2 f3 f4 HEW.out #[.int .u64 x.addr, .int .i64 x.page, .bool x.dirty, .int .i64 x.seq] rfl
        rw [← flags_put (m := 9) 1 rfl (by decide), ← slots_at (a := a) (d := 41) 1 rfl (by decide) (by rw [H.size]; exact of_decide_eq_true (by kernel_rfl))] at hk9
        exact step7_value (i := 9) rfl rfl (run_op_build rfl (by simp only [List.map_toArray, List.map_cons, List.map_nil]; show (Instr.buildSlice 27 1 #[(0, a.tmps.getD 40 undef)]).run _ _ = _; rw [t40]; exact run_build_ent x W)) hk9 trivial
      · intro listed a W H hj hl hd
        have d39 : listed.getD 7 false = true := dep_of hd 7 (by kernel_rfl)
        have d41 : listed.getD 9 false = true := dep_of hd 9 (by kernel_rfl)
        have f0 : (flags [7, 9, 10, 17, 20] listed).getD 0 false = true := done_true (dep_of hd 7 (by kernel_rfl))
        have f1 : (flags [7, 9, 10, 17, 20] listed).getD 1 false = true := done_true (dep_of hd 9 (by kernel_rfl))
        have f2 : (flags [7, 9, 10, 17, 20] listed).getD 2 false = false := hl
        have f3 : (flags [7, 9, 10, 17, 20] listed).getD 3 false = false := H.notyets 4 hl (by kernel_rfl)
        have f4 : (flags [7, 9, 10, 17, 20] listed).getD 4 false = false := H.notyets 4 hl (by kernel_rfl)
        obtain ⟨A9, c9, W9, hr, hk9⟩ := hj.second f0 f1 f2 f3 f4 HK9.out
        rw [← flags_put (m := 10) 2 rfl (by decide), ← slots_at (a := a) (d := 42) 2 rfl (by decide) (by rw [H.size]; exact of_decide_eq_true (by kernel_rfl))] at hk9
        exact step7_value (i := 10) rfl rfl (run_op_append rfl rfl rfl hr) hk9 trivial
      · intro listed a W H hj hl hd
        have t0 : a.tmps.getD 0 undef = .pointer (some ⟨g, 0, none⟩) := (H.old 0 (by kernel_rfl)).trans rfl
        exact step7_value (i := 11) rfl rfl (run_op_move rfl t0) (calm7 (fun fs vs x y h hl => InsK.later h hl) (by kernel_rfl) (by kernel_rfl) hj (later_refl _)) rfl
      · intro listed a W H hj hl hd
        have t43 : a.tmps.getD 43 undef = .pointer (some ⟨g, 0, none⟩) := H.get 11 43 (by kernel_rfl) (dep_of hd 11 (by kernel_rfl)) (fun _ h => by cases h)
        exact step7_value (i := 12) rfl rfl (run_op_nilCheck rfl t43) (calm7 (fun fs vs x y h hl => InsK.later h hl) (by kernel_rfl) (by kernel_rfl) hj (later_refl _)) rfl
      · intro listed a W H hj hl hd
        have t44 : a.tmps.getD 44 undef = .pointer (some ⟨g, 0, none⟩) := H.get 12 44 (by kernel_rfl) (dep_of hd 12 (by kernel_rfl)) (fun _ h => by cases h)
        exact step7_value (i := 13) rfl rfl (run_op_fieldAddr rfl t44 (run_tab_list g W)) (calm7 (fun fs vs x y h hl => InsK.later h hl) (by kernel_rfl) (by kernel_rfl) hj (later_refl _)) rfl
      · intro listed a W H hj hl hd
        have t45 : a.tmps.getD 45 undef = .pointer (some ⟨g, 0, none⟩) := H.get 13 45 (by kernel_rfl) (dep_of hd 13 (by kernel_rfl)) (fun _ h => by cases h)
        exact step7_value (i := 14) rfl rfl (run_op_load rfl t45 (run_load_ents g n c A W (((hj.below (H.notyets 4 hl (by kernel_rfl) : (flags [7, 9, 10, 17, 20] listed).getD 4 false = false)).cell (p := ⟨g, 0, none⟩) HRD.out.lt).trans HRD.out.c0))) (calm7 (fun fs vs x y h hl => InsK.later h hl) (by kernel_rfl) (by kernel_rfl) hj (later_refl _)) rfl
      · intro listed a W H hj hl hd
        have t6 : a.tmps.getD 6 undef = .int .i64 (k : Int) := (H.old 6 (by kernel_rfl)).trans rfl
        exact step7_value (i := 15) rfl rfl (run_op_move rfl t6) (calm7 (fun fs vs x y h hl => InsK.later h hl) (by kernel_rfl) (by kernel_rfl) hj (later_refl _)) rfl
      · intro listed a W H hj hl hd
        have t46 : a.tmps.getD 46 undef = .slice A n c := H.get 14 46 (by kernel_rfl) (dep_of hd 14 (by kernel_rfl)) (fun _ h => by cases h)
        have t47 : a.tmps.getD 47 undef = .int .i64 (k : Int) := H.get 15 47 (by kernel_rfl) (dep_of hd 15 (by kernel_rfl)) (fun _ h => by cases h)
        exact step7_value (i := 16) rfl rfl (run_op_slice rfl (by show (Instr.sliceAt 27 (a.tmps.getD 46 undef) (some (a.tmps.getD 47 undef)) none none).run _ _ = _; rw [t46, t47]; rw [run_sliceAt_slice (h := Try.underlying27)]; exact (entK.slice_from A n c k HKN.out W))) (calm7 (fun fs vs x y h hl => InsK.later h hl) (by kernel_rfl) (by kernel_rfl) hj (later_refl _)) rfl
      · intro listed a W H hj hl hd
        have d42 : listed.getD 10 false = true := dep_of hd 10 (by kernel_rfl)
        have t48 : a.tmps.getD 48 undef = .slice (if c = k then A else A.map (·.add (k * entK.k))) (n - k) (c - k) := H.get 16 48 (by kernel_rfl) (dep_of hd 16 (by kernel_rfl)) (fun _ h => by cases h)
        have f2 : (flags [7, 9, 10, 17, 20] listed).getD 2 false = true := done_true (dep_of hd 10 (by kernel_rfl))
        have f3 : (flags [7, 9, 10, 17, 20] listed).getD 3 false = false := hl
        have f4 : (flags [7, 9, 10, 17, 20] listed).getD 4 false = false := H.notyets 4 hl (by kernel_rfl)
        obtain ⟨A9, c9, W9, hr, hk9⟩ := hj.third f2 f3 f4 HKN.out LD.out HN9.out
        rw [← flags_put (m := 17) 3 rfl (by decide), ← slots_at (a := a) (d := 49) 3 rfl (by decide) (by rw [H.size]; exact of_decide_eq_true (by kernel_rfl))] at hk9
        exact step7_value (i := 17) rfl rfl (run_op_append rfl rfl t48 hr) hk9 trivial
      · intro listed a W H hj hl hd
        have t32 : a.tmps.getD 32 undef = .pointer (some ⟨g, 0, none⟩) := H.get 0 32 (by kernel_rfl) (dep_of hd 0 (by kernel_rfl)) (fun _ h => by cases h)
        exact step7_value (i := 18) rfl rfl (run_op_nilCheck rfl t32) (calm7 (fun fs vs x y h hl => InsK.later h hl) (by kernel_rfl) (by kernel_rfl) hj (later_refl _)) rfl
      · intro listed a W H hj hl hd
        have t50 : a.tmps.getD 50 undef = .pointer (some ⟨g, 0, none⟩) := H.get 18 50 (by kernel_rfl) (dep_of hd 18 (by kernel_rfl)) (fun _ h => by cases h)
        exact step7_value (i := 19) rfl rfl (run_op_fieldAddr rfl t50 (run_tab_list g W)) (calm7 (fun fs vs x y h hl => InsK.later h hl) (by kernel_rfl) (by kernel_rfl) hj (later_refl _)) rfl
      · intro listed a W H hj hl hd
        have t51 : a.tmps.getD 51 undef = .pointer (some ⟨g, 0, none⟩) := H.get 19 51 (by kernel_rfl) (dep_of hd 19 (by kernel_rfl)) (fun _ h => by cases h)
        have d49 : listed.getD 17 false = true := dep_of hd 17 (by kernel_rfl)
        have f2 : (flags [7, 9, 10, 17, 20] listed).getD 2 false = true := done_true (H.dones 4 (dep_of hd 17 (by kernel_rfl)) (by kernel_rfl))
        have f3 : (flags [7, 9, 10, 17, 20] listed).getD 3 false = true := done_true (dep_of hd 17 (by kernel_rfl))
        have f4 : (flags [7, 9, 10, 17, 20] listed).getD 4 false = false := hl
        obtain ⟨A9, c9, e9, hk9⟩ := hj.store f2 f3 f4
        rw [← flags_put (m := 20) 4 rfl (by decide)] at hk9
        have HRW := HRD.out.since (hj.below f4)
        exact step7_done (i := 20) rfl rfl rfl (run_op_store rfl t51 e9 (run_store_ents g n c (n + 1) c9 A A9 W HRW.c0 HRW.free)) hk9 trivial
    · intro a WC hdef hsz hw hall hact
      obtain ⟨u, hu⟩ : ∃ u : Nat → Value, ∀ k, a.tmps.getD k undef = u k := ⟨_, fun _ => rfl⟩
      simp only [hu] at hact
      have hact' : a = ([32, 33, 34, 35, 36, 37, 38, 39, 40, 41, 42, 43, 44, 45, 46, 47, 48, 49, 50, 51] : List Nat).foldl (fun b k => b.put (some k) (u k)) _ := hact
      simp only [List.foldl] at hact'
      simp only [Act.put, List.setIfInBounds_toArray, List.set_cons_succ, List.set_cons_zero] at hact'
      have HAC := Lib.hid hact'
      have HX := Lib.hid hw
      clear hact hact' hall hdef hsz hw
      rw [HAC.out]
      obtain ⟨A6, c6, hT6, hA6, hTu6⟩ := HRD.out.stored (HX.out.put rfl)
      have HT6 : Hid (RTab WC base g (putT l x) A6 (n + 1) c6) := by rw [← atK_put HAT.out]; exact hT6
      have HA6 := Lib.hid hA6
      have R6 : Hid (RowEn WC b0 E.zero) := ⟨(hTu6.block b0 RD.out.lt (by have := HBZ.out; have := HBW.out; omega)).trans RD.out.row⟩
      have HTU : Hid (Turn fp w WC) := (Turn.of_below SD.out).trans hTu6 fun b hb => Or.inl (by rw [hb]; exact HD.out.own)
      have HDZ : Hid (W0.heap.size ≤ WD.heap.size) := Nat.le_trans HSB.out HDL.out.size
      have HWS : Hid (w.heap.size ≤ WD.heap.size) := SD.out.size
      clear hT6 hA6 hTu6 HX hu RD SD HRD HBX LT LD HDL HWD
      obtain ⟨d0, d1, d2, d3⟩ := R6.out.at_
      have f0 := R6.out.free 0
      have f1 := R6.out.free 1
      have f2 := R6.out.free 2
      have f3 := R6.out.free 3
      unfold E.zero at d0 d1 d2 d3
      dsimp only at d0 d1 d2 d3
      go_wp2_with fail
      obtain ⟨W9, HW9⟩ : ∃ W9, Hid (W9 = ((((WC.setCell ⟨b0, 0, none⟩ (.int .u64 0)).setCell ⟨b0, 1, none⟩ (.int .i64 0)).setCell ⟨b0, 2, none⟩ (.bool false)).setCell ⟨b0, 3, none⟩ (.int .i64 0))) := ⟨_, rfl⟩
      have R9 := Lib.hid (R6.out.put ⟨0, 0, false, 0⟩)
      dsimp only at R9
      obtain ⟨fp9, hF9, hM9⟩ := ref_fin HD.out HT6.out (fun b hb => Or.inr (Nat.le_trans HWS.out (HA6.out b hb))) (fun hb => by have := HA6.out b0 hb; have := HBZ.out; have := HDZ.out; omega) (by have := HBZ.out; have := HBW.out; omega) HBW.out.1 HTU.out HTW.out (.int .u64 0) (.int .i64 0) (.bool false) (.int .i64 0)
      rw [← HW9.out] at R9 hF9 hM9 ⊢
      have HF9 := Lib.hid hF9
      have HM9 := Lib.hid hM9
      obtain ⟨r0, r1, r2, r3⟩ := R9.out.at_
      dsimp only at r0 r1 r2 r3
      exact bodyPost_ret (v := pairO none) (by simp [results, Try.results11, go_sem, r0, r1, r2, r3, pairO_none]) rfl (by rw [HG.out]; exact ⟨fp9, rfl, HF9.out, HM9.out⟩)
  | true =>
    have hk : k < n := by have := HAT.out.lt rfl; rw [HLN.out] at this; exact this
    have HG : Hid (getT l x.addr = some (l.getD k E.zero)) := HAT.out.get
    obtain ⟨ad, hA, hblk, hat⟩ := ent_at H1.out.lr.lie hk
    obtain rfl := hA
    have k1 : (k : Int) < (n : Int) := by omega
    obtain ⟨⟨ya, yp, yd, yq⟩, HX⟩ : ∃ x, Hid (l.getD k E.zero = x) := ⟨_, rfl⟩
    rw [show getEn l k = ⟨ya, yp, yd, yq⟩ from HX.out] at hat
    rw [HX.out] at HG
    rw [HG.out]
    have HZ : Hid (ad = ⟨ad.block, 0, none⟩) := by
      show _ = _
      rcases H1.out.lr.row.2 with ⟨hv, _⟩ | ⟨b, cap, cur, hv, _⟩
      · injection hv with h1; cases h1
      · injection hv with h1
        rw [Option.some.inj h1]
    have HPL : Hid (ad.add (k * 4) = ⟨ad.block, k * 4, none⟩) := by
      show _ = _
      have hz0 := HZ.out
      generalize ad.block = q at hz0 ⊢
      rw [hz0]
      unfold Addr.add
      split
      · next h0 => rw [h0]
      · simp
    obtain ⟨ga, HGA⟩ : ∃ ga, Hid (ad.block = ga) := ⟨_, rfl⟩
    rw [HGA.out] at HPL
    rw [HPL.out] at hat
    have HIA : Hid (fp ga) := HI.out ga (by rw [← HGA.out]; simp [blk])
    have c0 := H1.out.c0
    have hz := HZ.out
    rw [HGA.out] at hz
    rw [hz] at c0 H1
    have hga : ga < W1.heap.size := by rw [← HGA.out]; exact hblk
    have HEA := Lib.hid hat
    obtain ⟨e0, e1, e2, e3⟩ := hat
    dsimp only at e0 e1 e2 e3
    obtain ⟨W2, HW2⟩ : ∃ W2, Hid (W2 = W1.alloc (.cells #[.int .u64 ya, .int .i64 yp, .bool yd, .int .i64 yq] 32)) := ⟨_, rfl⟩
    have hb2 : Below W1.heap.size W1 W2 := by rw [HW2.out]; exact (Below.refl _ _).alloc (Nat.le_refl _) _
    have S2 := Lib.hid (below_chain S1.out hb2)
    have R2 := Lib.hid (R1.out.since hb2)
    have X2 := Lib.hid (X1.out.since hb2)
    have H2 := Lib.hid (H1.out.since hb2)
    have Y2 : Hid (RowEn W2 W1.heap.size ⟨ya, yp, yd, yq⟩) := by rw [HW2.out]; exact rowEn_new W1 ⟨ya, yp, yd, yq⟩
    go_wp2_with fail
    rw [← HW2.out]
    have HEB : EntAt W2 ⟨ga, k * 4, none⟩ ⟨ya, yp, yd, yq⟩ := HEA.out.since hga hb2
    have HSB2 : Hid (W1.heap.size ≤ W2.heap.size) := hb2.size
    obtain ⟨b8, HB8⟩ : ∃ b8, Hid (W1.heap.size = b8) := ⟨_, rfl⟩
    rw [HB8.out] at Y2 ⊢
    have HGB : Hid (ga < b8) := by rw [← HB8.out]; exact hga
    have HB8Z : Hid (b0 < b8 ∧ b1 < b8) := by rw [← HB8.out]; exact ⟨R1.out.lt, X1.out.lt⟩
    clear c0 e0 e1 e2 e3 hb2 HW2 S1 R1 X1 H1 HEA hga
    have c0 := H2.out.c0
    obtain ⟨e0, e1, e2, e3⟩ := HEB
    dsimp only at e0 e1 e2 e3
    obtain ⟨x0, x1, x2, x3⟩ := X2.out.at_
    have f0 : W2.frozen? ⟨ga, k * 4, none⟩ = false := H2.out.lr.row.frozenAt _
    have f1 : W2.frozen? ⟨ga, k * 4 + 1, none⟩ = false := H2.out.lr.row.frozenAt _
    have f2 : W2.frozen? ⟨ga, k * 4 + 2, none⟩ = false := H2.out.lr.row.frozenAt _
    have f3 : W2.frozen? ⟨ga, k * 4 + 3, none⟩ = false := H2.out.lr.row.frozenAt _
    go_region
    obtain ⟨WP, HWP⟩ : ∃ WP, Hid (WP = putEn W2 ga (k * 4) x) := ⟨_, rfl⟩
    have HWP2 := HWP.out
    unfold putEn at HWP2
    obtain ⟨W3, HW3⟩ : ∃ W3, Hid (W3 = WP.drew) := ⟨_, rfl⟩
    rw [← HWP2, ← HW3.out]
    have HW3B : Hid (Below WP.heap.size WP W3) := by rw [HW3.out]; exact (Below.refl _ _).drew
    obtain ⟨hrow, hgrow⟩ := entRow_set H2.out.lr hk x HEW.out
    rw [← HWP.out] at hrow hgrow
    have hgal : ga < w.heap.size := HD.out.lt ga HIA.out
    have hgne : g ≠ ga := fun e => by
      obtain ⟨cur, hc⟩ := Row.typed H2.out.lr ga (by simp [blk])
      exact absurd (other_type (w := W2) H2.out.row (e ▸ hc)) (by decide)
    have HT3 : Hid (RTab W3 base g (putT l x) (some ⟨ga, 0, none⟩) n c) := by
      rw [← atK_set HAT.out]
      exact RTab.since ⟨H2.out.base_le, (hgrow.block g H2.out.lt (fun e => hgne (Option.some.inj e))).trans H2.out.row, hrow⟩ HW3B.out
    have HTU : Hid (Turn fp w W3) := ((Turn.of_below S2.out).trans (Turn.of_grown (fp := fun q => q = ga) hgrow fun q e => (Option.some.inj e).symm) fun b hb => Or.inl (by rw [hb]; exact HIA.out)).trans (Turn.of_below (fp := fun _ => False) HW3B.out) fun b hb => hb.elim
    have R3 : Hid (RowEn W3 b0 E.zero) := RowEn.since ⟨(hgrow.block b0 R2.out.lt (fun e => by have := Option.some.inj e; have := HBW.out; omega)).trans R2.out.row⟩ HW3B.out
    have Y3 : Hid (RowEn W3 b8 ⟨ya, yp, yd, yq⟩) := RowEn.since ⟨(hgrow.block b8 Y2.out.lt (fun e => by have := Option.some.inj e; have := HGB.out; omega)).trans Y2.out.row⟩ HW3B.out
    have HAN : Hid (∀ b ∈ blk (some (⟨ga, 0, none⟩ : Addr)), b = ga) := fun b hb => by simpa [blk] using hb
    have HGG : Hid (ga < b0) := by have := HBW.out; show _ < _; omega
    clear hrow hgrow hgal hgne HWP2 HWP HW3 HW3B R2 X2 Y2 H2 S2 c0 e0 e1 e2 e3 x0 x1 x2 x3 f0 f1 f2 f3
    obtain ⟨e0, e1, e2, e3⟩ := Y3.out.at_
    obtain ⟨d0, d1, d2, d3⟩ := R3.out.at_
    have f0 := R3.out.free 0
    have f1 := R3.out.free 1
    have f2 := R3.out.free 2
    have f3 := R3.out.free 3
    unfold E.zero at d0 d1 d2 d3
    dsimp only at d0 d1 d2 d3 e0 e1 e2 e3
    go_wp2_with fail
    obtain ⟨W9, HW9⟩ : ∃ W9, Hid (W9 = ((((W3.setCell ⟨b0, 0, none⟩ (.int .u64 ya)).setCell ⟨b0, 1, none⟩ (.int .i64 yp)).setCell ⟨b0, 2, none⟩ (.bool yd)).setCell ⟨b0, 3, none⟩ (.int .i64 yq))) := ⟨_, rfl⟩
    have R9 := Lib.hid (R3.out.put ⟨ya, yp, yd, yq⟩)
    dsimp only at R9
    obtain ⟨fp9, hF9, hM9⟩ := ref_fin HD.out HT3.out (fun b hb => Or.inl (by rw [HAN.out b hb]; exact HIA.out)) (fun hb => by have := HAN.out b0 hb; have := HGG.out; omega) (by have := HBZ.out; have := HBW.out; omega) HBW.out.1 HTU.out HTW.out (.int .u64 ya) (.int .i64 yp) (.bool yd) (.int .i64 yq)
    rw [← HW9.out] at R9 hF9 hM9 ⊢
    have HF9 := Lib.hid hF9
    have HM9 := Lib.hid hM9
    obtain ⟨r0, r1, r2, r3⟩ := R9.out.at_
    dsimp only at r0 r1 r2 r3
    exact bodyPost_ret (v := pairO (some ⟨ya, yp, yd, yq⟩)) (by simp [results, Try.results11, go_sem, r0, r1, r2, r3, pairO_some]) rfl (by rw [HG.out]; exact ⟨fp9, rfl, HF9.out, HM9.out⟩)
end
end Go.Proofs.Ythamnmadgfmbkaa
namespace Go.Proofs.Ythamnmadgfmbkaa
open Go.RowKit

section
variable {w : World} {base g : Nat} {fp : Nat → Prop} {l : List E}
set_option maxHeartbeats 16000000 in
set_option maxRecDepth 20000 in
theorem refdrop_any (ax : Int) (h : RefTb w base fp g l) : Calls Try.prog 15 #[.pointer (some ⟨g, 0, none⟩), .int .u64 ax] w (RLeads w base fp g (dropT l ax) (getT l ax)) := by
  obtain ⟨A, n, c, hR, hI⟩ := h.ex
  have HD := Lib.hid h
  have HI := Lib.hid hI
  have HLN : Hid (l.length = n) := hR.lr.len
  have HTW := Lib.hid (tw_drop h.wf ax)
  have HSR := Lib.hid h.wf.srt
  obtain ⟨W0, HW0⟩ : ∃ W0, Hid (W0 = w.alloc (.cells #[.int .u64 0, .int .i64 0, .bool false, .int .i64 0] 32)) := ⟨_, rfl⟩
  have S0 : Hid (Below w.heap.size w W0) := by rw [HW0.out]; exact (Below.refl _ _).alloc (Nat.le_refl _) _
  have R0 : Hid (RowEn W0 w.heap.size E.zero) := by rw [HW0.out]; exact rowEn_new w E.zero
  have H0 := Lib.hid (hR.since S0.out)
  obtain ⟨b0, HB0⟩ : ∃ b0, Hid (w.heap.size = b0) := ⟨_, rfl⟩
  have HBW : Hid (w.heap.size ≤ b0 ∧ g < b0) := by rw [← HB0.out]; exact ⟨Nat.le_refl _, hR.lt⟩
  rw [HB0.out] at R0
  have HN4 : Hid (n ≤ 120) := by rw [← HLN.out]; exact h.wf.few
  have C := Lib.hid (refat_any ax H0.out h.wf.srt HN4.out)
  clear h hR hI
  go_enter Try.func15, Try.ntmps15
  go_wp2_with fail
  rw [← HW0.out, HB0.out]
  clear HW0
  refine C.out.mono ?_
  rintro e W1 ⟨k, ok, rfl, hat, hb1⟩
  have HAT := Lib.hid hat
  have S1 := Lib.hid (below_chain S0.out hb1)
  have R1 := Lib.hid (R0.out.since hb1)
  have H1 := Lib.hid (H0.out.since hb1)
  have HKN : Hid (k ≤ n) := by have := HAT.out.le; rw [HLN.out] at this; exact this
  clear hat hb1 S0 R0 H0 C HB0
  have k0 : (0 : Int) ≤ (k : Int) := by omega
  cases ok with
  | false =>
    have HG : Hid (getT l ax = none) := HAT.out.get
    have HTD : Hid (RTab W1 base g (dropT l ax) A n c) := by rw [drop_none HG.out]; exact H1.out
    have HTU : Hid (Turn fp w W1) := Turn.of_below S1.out
    have HA1 : Hid (∀ b ∈ blk A, fp b ∧ b < w.heap.size) := fun b hb => ⟨HI.out b hb, HD.out.lt b (HI.out b hb)⟩
    obtain ⟨d0, d1, d2, d3⟩ := R1.out.at_
    have f0 := R1.out.free 0
    have f1 := R1.out.free 1
    have f2 := R1.out.free 2
    have f3 := R1.out.free 3
    unfold E.zero at d0 d1 d2 d3
    dsimp only at d0 d1 d2 d3
    go_wp2_with fail
    obtain ⟨W9, HW9⟩ : ∃ W9, Hid (W9 = ((((W1.setCell ⟨b0, 0, none⟩ (.int .u64 0)).setCell ⟨b0, 1, none⟩ (.int .i64 0)).setCell ⟨b0, 2, none⟩ (.bool false)).setCell ⟨b0, 3, none⟩ (.int .i64 0))) := ⟨_, rfl⟩
    have R9 := Lib.hid (R1.out.put ⟨0, 0, false, 0⟩)
    dsimp only at R9
    obtain ⟨fp9, hF9, hM9⟩ := ref_fin HD.out HTD.out (fun b hb => Or.inl (HA1.out b hb).1) (fun hb => by have := (HA1.out b0 hb).2; have := HBW.out; omega) (by have := HBW.out; omega) HBW.out.1 HTU.out HTW.out (.int .u64 0) (.int .i64 0) (.bool false) (.int .i64 0)
    rw [← HW9.out] at R9 hF9 hM9 ⊢
    have HF9 := Lib.hid hF9
    have HM9 := Lib.hid hM9
    obtain ⟨r0, r1, r2, r3⟩ := R9.out.at_
    dsimp only at r0 r1 r2 r3
    exact bodyPost_ret (v := pairO none) (by simp [results, Try.results15, go_sem, r0, r1, r2, r3, pairO_none]) rfl (by rw [HG.out]; exact ⟨fp9, rfl, HF9.out, HM9.out⟩)
  | true =>
    have hk : k < n := by have := HAT.out.lt rfl; rw [HLN.out] at this; exact this
    have HG : Hid (getT l ax = some (l.getD k E.zero)) := HAT.out.get
    obtain ⟨ad, hA, hblk, hat⟩ := ent_at H1.out.lr.lie hk
    obtain rfl := hA
    have k1 : (k : Int) < (n : Int) := by omega
    obtain ⟨⟨ya, yp, yd, yq⟩, HX⟩ : ∃ x, Hid (l.getD k E.zero = x) := ⟨_, rfl⟩
    rw [show getEn l k = ⟨ya, yp, yd, yq⟩ from HX.out] at hat
    rw [HX.out] at HG
    have c0 := H1.out.c0
    obtain ⟨e0, e1, e2, e3⟩ := hat
    dsimp only at e0 e1 e2 e3
    obtain ⟨W2, HW2⟩ : ∃ W2, Hid (W2 = W1.alloc (.cells #[.int .u64 ya, .int .i64 yp, .bool yd, .int .i64 yq] 32)) := ⟨_, rfl⟩
    have hb2 : Below W1.heap.size W1 W2 := by rw [HW2.out]; exact (Below.refl _ _).alloc (Nat.le_refl _) _
    have S2 := Lib.hid (below_chain S1.out hb2)
    have R2 := Lib.hid (R1.out.since hb2)
    have H2 := Lib.hid (H1.out.since hb2)
    have Y2 : Hid (RowEn W2 W1.heap.size ⟨ya, yp, yd, yq⟩) := by rw [HW2.out]; exact rowEn_new W1 ⟨ya, yp, yd, yq⟩
    have HKL : Hid (k + 1 ≤ n) := hk
    go_wp2_with fail
    rw [← HW2.out]
    obtain ⟨b8, HB8⟩ : ∃ b8, Hid (W1.heap.size = b8) := ⟨_, rfl⟩
    rw [HB8.out] at Y2 ⊢
    have HB8Z : Hid (b0 < b8 ∧ g < b8) := by rw [← HB8.out]; exact ⟨R1.out.lt, H1.out.lt⟩
    clear c0 e0 e1 e2 e3 hb2 HW2 S1 R1 H1 hblk
    obtain ⟨WD, HWD⟩ : ∃ W, Hid (W = W2.drew) := ⟨_, rfl⟩
    have HDL : Hid (Below W2.heap.size W2 WD) := by rw [HWD.out]; exact (Below.refl _ _).drew
    have HRD := Lib.hid (H2.out.since HDL.out)
    have RD := Lib.hid (R2.out.since HDL.out)
    have YD := Lib.hid (Y2.out.since HDL.out)
    have SD := Lib.hid (below_chain S2.out HDL.out)
    have HCAP : Hid (n ≤ c) := HRD.out.lr.cap
    have HK8 : Hid (k ≤ 8000) := by have := HKN.out; have := HN4.out; show _ ≤ _; omega
    have HN8 : Hid (n ≤ 8000) := by have := HN4.out; show _ ≤ _; omega
    have HNN : Hid (k + (n - (k + 1)) = n - 1) := by have := HKL.out; show _ = _; omega
    have HK1 : Hid ((k : Int) + 1 = ((k + 1 : Nat) : Int)) := by show _ = _; omega
    have HKA : Hid (-9223372036854775808 ≤ ((k + 1 : Nat) : Int)) := by show _ ≤ _; omega
    have HKB : Hid (((k + 1 : Nat) : Int) ≤ 9223372036854775807) := by have := HKL.out; have := HN4.out; show _ ≤ _; omega
    have LT : Hid (entK.Lie WD WD.heap.size (some ad) k (l.take k)) := HRD.out.lr.lie.first HKN.out
    have LD : Hid (entK.Lie WD WD.heap.size (if c = k + 1 then some ad else (some ad).map (·.add ((k + 1) * entK.k))) (n - (k + 1)) (l.drop (k + 1))) := HRD.out.lr.lie.rest HKL.out HCAP.out
    clear H2 R2 Y2 S2 HDL hk k1
    refine region_of_steps7 (by kernel_rfl) [some (.pointer (some ⟨g, 0, none⟩)), some (.pointer (some ⟨g, 0, none⟩)), some (.pointer (some ⟨g, 0, none⟩)), some (.pointer (some ⟨g, 0, none⟩)), some (.slice (some ad) n c), some (.int .i64 (k : Int)), some (.slice (some ad) k c), none, some (.pointer (some ⟨g, 0, none⟩)), some (.pointer (some ⟨g, 0, none⟩)), some (.pointer (some ⟨g, 0, none⟩)), some (.slice (some ad) n c), some (.int .i64 (k : Int)), some (.int .i64 ((k + 1 : Nat) : Int)), some (.slice (if c = k + 1 then some ad else (some ad).map (·.add ((k + 1) * entK.k))) (n - (k + 1)) (c - (k + 1))), none, some (.pointer (some ⟨g, 0, none⟩)), some (.pointer (some ⟨g, 0, none⟩)), none] [7, 15, 18] [32, 40] (DelK entK WD g k n l) (by kernel_rfl) (by kernel_rfl) (by rw [← HWD.out]; exact DelK.start (by rw [slots_len]; rfl)) ?_ ?_
    · refine Steps7.cons ?_ (Steps7.cons ?_ (Steps7.cons ?_ (Steps7.cons ?_ (Steps7.cons ?_ (Steps7.cons ?_ (Steps7.cons ?_ (Steps7.cons ?_ (Steps7.cons ?_ (Steps7.cons ?_ (Steps7.cons ?_ (Steps7.cons ?_ (Steps7.cons ?_ (Steps7.cons ?_ (Steps7.cons ?_ (Steps7.cons ?_ (Steps7.cons ?_ (Steps7.cons ?_ (Steps7.cons ?_ (Steps7.nil)))))))))))))))))))
      · intro listed a W H hj hl hd
        have t0 : a.tmps.getD 0 undef = .pointer (some ⟨g, 0, none⟩) := (H.old 0 (by kernel_rfl)).trans rfl
        exact step7_value (i := 0) rfl rfl (run_op_move rfl t0) (calm7 (fun fs vs x y h hl => DelK.later h hl) (by kernel_rfl) (by kernel_rfl) hj (later_refl _)) rfl
      · intro listed a W H hj hl hd
        have t0 : a.tmps.getD 0 undef = .pointer (some ⟨g, 0, none⟩) := (H.old 0 (by kernel_rfl)).trans rfl
        exact step7_value (i := 1) rfl rfl (run_op_move rfl t0) (calm7 (fun fs vs x y h hl => DelK.later h hl) (by kernel_rfl) (by kernel_rfl) hj (later_refl _)) rfl
      · intro listed a W H hj hl hd
        have t26 : a.tmps.getD 26 undef = .pointer (some ⟨g, 0, none⟩) := H.get 1 26 (by kernel_rfl) (dep_of hd 1 (by kernel_rfl)) (fun _ h => by cases h)
        exact step7_value (i := 2) rfl rfl (run_op_nilCheck rfl t26) (calm7 (fun fs vs x y h hl => DelK.later h hl) (by kernel_rfl) (by kernel_rfl) hj (later_refl _)) rfl
      · intro listed a W H hj hl hd
        have t27 : a.tmps.getD 27 undef = .pointer (some ⟨g, 0, none⟩) := H.get 2 27 (by kernel_rfl) (dep_of hd 2 (by kernel_rfl)) (fun _ h => by cases h)
        exact step7_value (i := 3) rfl rfl (run_op_fieldAddr rfl t27 (run_tab_list g W)) (calm7 (fun fs vs x y h hl => DelK.later h hl) (by kernel_rfl) (by kernel_rfl) hj (later_refl _)) rfl
      · intro listed a W H hj hl hd
        have t28 : a.tmps.getD 28 undef = .pointer (some ⟨g, 0, none⟩) := H.get 3 28 (by kernel_rfl) (dep_of hd 3 (by kernel_rfl)) (fun _ h => by cases h)
        exact step7_value (i := 4) rfl rfl (run_op_load rfl t28 (run_load_ents g n c (some ad) W (((hj.below (H.notyets 4 hl (by kernel_rfl) : (flags [7, 15, 18] listed).getD 2 false = false)).cell (p := ⟨g, 0, none⟩) HRD.out.lt).trans HRD.out.c0))) (calm7 (fun fs vs x y h hl => DelK.later h hl) (by kernel_rfl) (by kernel_rfl) hj (later_refl _)) rfl
      · intro listed a W H hj hl hd
        have t6 : a.tmps.getD 6 undef = .int .i64 (k : Int) := (H.old 6 (by kernel_rfl)).trans rfl
        exact step7_value (i := 5) rfl rfl (run_op_move rfl t6) (calm7 (fun fs vs x y h hl => DelK.later h hl) (by kernel_rfl) (by kernel_rfl) hj (later_refl _)) rfl
      · intro listed a W H hj hl hd
        have t29 : a.tmps.getD 29 undef = .slice (some ad) n c := H.get 4 29 (by kernel_rfl) (dep_of hd 4 (by kernel_rfl)) (fun _ h => by cases h)
        have t30 : a.tmps.getD 30 undef = .int .i64 (k : Int) := H.get 5 30 (by kernel_rfl) (dep_of hd 5 (by kernel_rfl)) (fun _ h => by cases h)
        exact step7_value (i := 6) rfl rfl (run_op_slice rfl (by show (Instr.sliceAt 27 (a.tmps.getD 29 undef) none (some (a.tmps.getD 30 undef)) none).run _ _ = _; rw [t29, t30]; rw [run_sliceAt_slice (h := Try.underlying27)]; exact (entK.slice_to (some ad) n c k HKN.out HCAP.out W))) (calm7 (fun fs vs x y h hl => DelK.later h hl) (by kernel_rfl) (by kernel_rfl) hj (later_refl _)) rfl
      · intro listed a W H hj hl hd
        have t31 : a.tmps.getD 31 undef = .slice (some ad) k c := H.get 6 31 (by kernel_rfl) (dep_of hd 6 (by kernel_rfl)) (fun _ h => by cases h)
        have f3 : (flags [7, 15, 18] listed).getD 1 false = false := H.notyets 4 hl (by kernel_rfl)
        have f4 : (flags [7, 15, 18] listed).getD 2 false = false := H.notyets 4 hl (by kernel_rfl)
        obtain ⟨A9, c9, W9, hr, hk9⟩ := hj.first f3 f4 LT.out HK8.out
        rw [← flags_put (m := 7) 0 rfl (by decide), ← slots_at (a := a) (d := 32) 0 rfl (by decide) (by rw [H.size]; exact of_decide_eq_true (by kernel_rfl))] at hk9
        exact step7_value (i := 7) rfl rfl (run_op_append rfl rfl t31 hr) hk9 trivial
      · intro listed a W H hj hl hd
        have t0 : a.tmps.getD 0 undef = .pointer (some ⟨g, 0, none⟩) := (H.old 0 (by kernel_rfl)).trans rfl
        exact step7_value (i := 8) rfl rfl (run_op_move rfl t0) (calm7 (fun fs vs x y h hl => DelK.later h hl) (by kernel_rfl) (by kernel_rfl) hj (later_refl _)) rfl
      · intro listed a W H hj hl hd
        have t33 : a.tmps.getD 33 undef = .pointer (some ⟨g, 0, none⟩) := H.get 8 33 (by kernel_rfl) (dep_of hd 8 (by kernel_rfl)) (fun _ h => by cases h)
        exact step7_value (i := 9) rfl rfl (run_op_nilCheck rfl t33) (calm7 (fun fs vs x y h hl => DelK.later h hl) (by kernel_rfl) (by kernel_rfl) hj (later_refl _)) rfl
      · intro listed a W H hj hl hd
        have t34 : a.tmps.getD 34 undef = .pointer (some ⟨g, 0, none⟩) := H.get 9 34 (by kernel_rfl) (dep_of hd 9 (by kernel_rfl)) (fun _ h => by cases h)
        exact step7_value (i := 10) rfl rfl (run_op_fieldAddr rfl t34 (run_tab_list g W)) (calm7 (fun fs vs x y h hl => DelK.later h hl) (by kernel_rfl) (by kernel_rfl) hj (later_refl _)) rfl
      · intro listed a W H hj hl hd
        have t35 : a.tmps.getD 35 undef = .pointer (some ⟨g, 0, none⟩) := H.get 10 35 (by kernel_rfl) (dep_of hd 10 (by kernel_rfl)) (fun _ h => by cases h)
        exact step7_value (i := 11) rfl rfl (run_op_load rfl t35 (run_load_ents g n c (some ad) W (((hj.below (H.notyets 4 hl (by kernel_rfl) : (flags [7, 15, 18] listed).getD 2 false = false)).cell (p := ⟨g, 0, none⟩) HRD.out.lt).trans HRD.out.c0))) (calm7 (fun fs vs x y h hl => DelK.later h hl) (by kernel_rfl) (by kernel_rfl) hj (later_refl _)) rfl
      · intro listed a W H hj hl hd
        have t6 : a.tmps.getD 6 undef = .int .i64 (k : Int) := (H.old 6 (by kernel_rfl)).trans rfl
        exact step7_value (i := 12) rfl rfl (run_op_move rfl t6) (calm7 (fun fs vs x y h hl => DelK.later h hl) (by kernel_rfl) (by kernel_rfl) hj (later_refl _)) rfl
      · intro listed a W H hj hl hd
        have t37 : a.tmps.getD 37 undef = .int .i64 (k : Int) := H.get 12 37 (by kernel_rfl) (dep_of hd 12 (by kernel_rfl)) (fun _ h => by cases h)
        exact step7_value (i := 13) rfl rfl (run_op_bin rfl t37 rfl (bin_add _ _ _ (k : Int) 1 ((k + 1 : Nat) : Int) HK1.out HKA.out HKB.out)) (calm7 (fun fs vs x y h hl => DelK.later h hl) (by kernel_rfl) (by kernel_rfl) hj (later_refl _)) rfl
      · intro listed a W H hj hl hd
        have t36 : a.tmps.getD 36 undef = .slice (some ad) n c := H.get 11 36 (by kernel_rfl) (dep_of hd 11 (by kernel_rfl)) (fun _ h => by cases h)
        have t38 : a.tmps.getD 38 undef = .int .i64 ((k + 1 : Nat) : Int) := H.get 13 38 (by kernel_rfl) (dep_of hd 13 (by kernel_rfl)) (fun _ h => by cases h)
        exact step7_value (i := 14) rfl rfl (run_op_slice rfl (by show (Instr.sliceAt 27 (a.tmps.getD 36 undef) (some (a.tmps.getD 38 undef)) none none).run _ _ = _; rw [t36, t38]; rw [run_sliceAt_slice (h := Try.underlying27)]; exact (entK.slice_from (some ad) n c (k + 1) HKL.out W))) (calm7 (fun fs vs x y h hl => DelK.later h hl) (by kernel_rfl) (by kernel_rfl) hj (later_refl _)) rfl
      · intro listed a W H hj hl hd
        have d32 : listed.getD 7 false = true := dep_of hd 7 (by kernel_rfl)
        have t39 : a.tmps.getD 39 undef = .slice (if c = k + 1 then some ad else (some ad).map (·.add ((k + 1) * entK.k))) (n - (k + 1)) (c - (k + 1)) := H.get 14 39 (by kernel_rfl) (dep_of hd 14 (by kernel_rfl)) (fun _ h => by cases h)
        have f2 : (flags [7, 15, 18] listed).getD 0 false = true := done_true (dep_of hd 7 (by kernel_rfl))
        have f3 : (flags [7, 15, 18] listed).getD 1 false = false := hl
        have f4 : (flags [7, 15, 18] listed).getD 2 false = false := H.notyets 4 hl (by kernel_rfl)
        obtain ⟨A9, c9, W9, hr, hk9⟩ := hj.second f2 f3 f4 HNN.out LD.out HN8.out
        rw [← flags_put (m := 15) 1 rfl (by decide), ← slots_at (a := a) (d := 40) 1 rfl (by decide) (by rw [H.size]; exact of_decide_eq_true (by kernel_rfl))] at hk9
        exact step7_value (i := 15) rfl rfl (run_op_append rfl rfl t39 hr) hk9 trivial
      · intro listed a W H hj hl hd
        have t25 : a.tmps.getD 25 undef = .pointer (some ⟨g, 0, none⟩) := H.get 0 25 (by kernel_rfl) (dep_of hd 0 (by kernel_rfl)) (fun _ h => by cases h)
        exact step7_value (i := 16) rfl rfl (run_op_nilCheck rfl t25) (calm7 (fun fs vs x y h hl => DelK.later h hl) (by kernel_rfl) (by kernel_rfl) hj (later_refl _)) rfl
      · intro listed a W H hj hl hd
        have t41 : a.tmps.getD 41 undef = .pointer (some ⟨g, 0, none⟩) := H.get 16 41 (by kernel_rfl) (dep_of hd 16 (by kernel_rfl)) (fun _ h => by cases h)
        exact step7_value (i := 17) rfl rfl (run_op_fieldAddr rfl t41 (run_tab_list g W)) (calm7 (fun fs vs x y h hl => DelK.later h hl) (by kernel_rfl) (by kernel_rfl) hj (later_refl _)) rfl
      · intro listed a W H hj hl hd
        have t42 : a.tmps.getD 42 undef = .pointer (some ⟨g, 0, none⟩) := H.get 17 42 (by kernel_rfl) (dep_of hd 17 (by kernel_rfl)) (fun _ h => by cases h)
        have d40 : listed.getD 15 false = true := dep_of hd 15 (by kernel_rfl)
        have f3 : (flags [7, 15, 18] listed).getD 1 false = true := done_true (dep_of hd 15 (by kernel_rfl))
        have f4 : (flags [7, 15, 18] listed).getD 2 false = false := hl
        obtain ⟨A9, c9, e9, hk9⟩ := hj.store f3 f4
        rw [← flags_put (m := 18) 2 rfl (by decide)] at hk9
        have HRW := HRD.out.since (hj.below f4)
        exact step7_done (i := 18) rfl rfl rfl (run_op_store rfl t42 e9 (run_store_ents g n c (n - 1) c9 (some ad) A9 W HRW.c0 HRW.free)) hk9 trivial
    · intro a WC hdef hsz hw hall hact
      obtain ⟨u, hu⟩ : ∃ u : Nat → Value, ∀ k, a.tmps.getD k undef = u k := ⟨_, fun _ => rfl⟩
      simp only [hu] at hact
      have hact' : a = ([25, 26, 27, 28, 29, 30, 31, 32, 33, 34, 35, 36, 37, 38, 39, 40, 41, 42] : List Nat).foldl (fun b k => b.put (some k) (u k)) _ := hact
      simp only [List.foldl] at hact'
      simp only [Act.put, List.setIfInBounds_toArray, List.set_cons_succ, List.set_cons_zero] at hact'
      have HAC := Lib.hid hact'
      have HX9 := Lib.hid hw
      clear hact hact' hall hdef hsz hw
      rw [HAC.out]
      obtain ⟨A6, c6, hT6, hA6, hTu6⟩ := HRD.out.stored (HX9.out.put rfl)
      have HT6 : Hid (RTab WC base g (dropT l ax) A6 (n - 1) c6) := by rw [← atK_drop HSR.out HAT.out]; exact hT6
      have HA6 := Lib.hid hA6
      have R6 : Hid (RowEn WC b0 E.zero) := ⟨(hTu6.block b0 RD.out.lt (by have := HBW.out; omega)).trans RD.out.row⟩
      have Y6 : Hid (RowEn WC b8 ⟨ya, yp, yd, yq⟩) := ⟨(hTu6.block b8 YD.out.lt (by have := HB8Z.out; omega)).trans YD.out.row⟩
      have HTU : Hid (Turn fp w WC) := (Turn.of_below SD.out).trans hTu6 fun b hb => Or.inl (by rw [hb]; exact HD.out.own)
      have HDZ : Hid (b0 < WD.heap.size) := RD.out.lt
      have HWS : Hid (w.heap.size ≤ WD.heap.size) := SD.out.size
      clear hT6 hA6 hTu6 HX9 hu RD YD SD HRD LT LD HWD
      obtain ⟨d0, d1, d2, d3⟩ := R6.out.at_
      obtain ⟨e0, e1, e2, e3⟩ := Y6.out.at_
      have f0 := R6.out.free 0
      have f1 := R6.out.free 1
      have f2 := R6.out.free 2
      have f3 := R6.out.free 3
      unfold E.zero at d0 d1 d2 d3
      dsimp only at d0 d1 d2 d3 e0 e1 e2 e3
      go_wp2_with fail
      obtain ⟨W9, HW9⟩ : ∃ W9, Hid (W9 = ((((WC.setCell ⟨b0, 0, none⟩ (.int .u64 ya)).setCell ⟨b0, 1, none⟩ (.int .i64 yp)).setCell ⟨b0, 2, none⟩ (.bool yd)).setCell ⟨b0, 3, none⟩ (.int .i64 yq))) := ⟨_, rfl⟩
      have R9 := Lib.hid (R6.out.put ⟨ya, yp, yd, yq⟩)
      dsimp only at R9
      obtain ⟨fp9, hF9, hM9⟩ := ref_fin HD.out HT6.out (fun b hb => Or.inr (Nat.le_trans HWS.out (HA6.out b hb))) (fun hb => by have := HA6.out b0 hb; have := HDZ.out; omega) (by have := HBW.out; omega) HBW.out.1 HTU.out HTW.out (.int .u64 ya) (.int .i64 yp) (.bool yd) (.int .i64 yq)
      rw [← HW9.out] at R9 hF9 hM9 ⊢
      have HF9 := Lib.hid hF9
      have HM9 := Lib.hid hM9
      obtain ⟨r0, r1, r2, r3⟩ := R9.out.at_
      dsimp only at r0 r1 r2 r3
      exact bodyPost_ret (v := pairO (some ⟨ya, yp, yd, yq⟩)) (by simp [results, Try.results15, go_sem, r0, r1, r2, r3, pairO_some]) rfl (by rw [HG.out]; exact ⟨fp9, rfl, HF9.out, HM9.out⟩)
end
end Go.Proofs.Ythamnmadgfmbkaa
