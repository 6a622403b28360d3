/- The landed table: insert, where there is a row. Conditions: the table's cells; fewer than 120 entries. -/
import Derived.Test.YthamnmadgfmbkaaTabPut
import Derived.Test.YthamnmadgfmbkaaChain
import Derived.Test.YthamnmadgfmbkaaRunBin
set_option linter.unusedVariables false
set_option linter.unusedSimpArgs false
namespace Go.Proofs.Ythamnmadgfmbkaa
open Go.RowKit

/- runs of single operations -/
theorem run_load_ents (g n c : Nat) (A : Option Addr) (w : World) (hc : w.cell? ⟨g, 0, none⟩ = some (.slice A n c)) : (Instr.loadAt 27 (.pointer (some ⟨g, 0, none⟩))).run Try.prog w = .ok (.slice A n c) w := by go_simp
theorem run_load_rows (g : Nat) (v : Value) (w : World) (hc : w.cell? ⟨g, 0, none⟩ = some v) : (Instr.loadAt 50 (.pointer (some ⟨g, 0, none⟩))).run Try.prog w = .ok v w := by go_simp
theorem run_load_int (g o : Nat) (x : Int) (w : World) (hc : w.cell? ⟨g, o, none⟩ = some (.int .i64 x)) : (Instr.loadAt 3 (.pointer (some ⟨g, o, none⟩))).run Try.prog w = .ok (.int .i64 x) w := by go_simp
theorem run_load_ent (g : Nat) (x : E) (w : World) (h : RowEn w g x) : (Instr.loadAt 32 (.pointer (some ⟨g, 0, none⟩))).run Try.prog w = .ok (entV x) w := by
  obtain ⟨c0, c1, c2, c3⟩ := h.at_
  unfold entV
  go_simp
theorem run_field_t0 (g : Nat) (w : World) : (Instr.fieldAt 52 (.pointer (some ⟨g, 0, none⟩)) 0).run Try.prog w = .ok (.pointer (some ⟨g, 0, none⟩)) w := by go_simp
theorem run_field_p0 (g : Nat) (w : World) : (Instr.fieldAt 54 (.pointer (some ⟨g, 0, none⟩)) 0).run Try.prog w = .ok (.pointer (some ⟨g, 0, none⟩)) w := by go_simp
theorem run_field_p1 (g : Nat) (w : World) : (Instr.fieldAt 54 (.pointer (some ⟨g, 0, none⟩)) 1).run Try.prog w = .ok (.pointer (some ⟨g, 1, none⟩)) w := by go_simp
theorem run_index_rows (h cA : Nat) (w : World) : (Instr.indexAt 50 (.slice (some ⟨h, 0, none⟩) 1 cA) (.int .i64 0)).run Try.prog w = .ok (.pointer (some ⟨h, 0, none⟩)) w := by go_simp
theorem run_build_ent (x : E) (w : World) : (Instr.buildSlice 27 1 #[(0, entV x)]).run Try.prog w = .ok (.slice (some ⟨w.heap.size, 0, none⟩) 1 1) (w.alloc (.cells #[.int .u64 x.addr, .int .i64 x.page, .bool x.dirty, .int .i64 x.seq] 32)) := by
  unfold entV
  go_simp
/-- The row behind the call of Insert. -/
def InsR (WD : World) (base r n : Nat) (L : List E) (W : World) (v : Value) : Prop :=
  ∃ r' c', v = .slice (some ⟨r', 0, none⟩) n c' ∧ entK.Row W base (some ⟨r', 0, none⟩) n c' L ∧ Turn (fun b => b = r) WD W ∧ (r' = r ∨ WD.heap.size ≤ r')
/-- fs: the entry is laid, Insert is done, its answer is laid; vs: their slots. -/
structure InsJ (WD : World) (base r n : Nat) (x : E) (L : List E) (fs : List Bool) (vs : List Value) (W : World) : Prop where
  lf : fs.length = 3
  lv : vs.length = 3
  below : fs.getD 1 false = false → Below WD.heap.size WD W
  lit : fs.getD 0 false = true → fs.getD 1 false = false → ∃ gb, vs.getD 0 undef = .slice (some ⟨gb, 0, none⟩) 1 1 ∧ RowEn W gb x ∧ WD.heap.size ≤ gb
  done : fs.getD 1 false = true → InsR WD base r n L W (vs.getD 1 undef)
  fin : fs.getD 2 false = true → InsR WD base r n L W (vs.getD 2 undef)
section
variable {WD W W' : World} {base r n : Nat} {x : E} {L : List E} {fs : List Bool} {vs : List Value} {v : Value}
theorem InsR.later (h : InsR WD base r n L W v) (hl : Later W W') : InsR WD base r n L W' v := by
  obtain ⟨r', c', e, h1, h2, h3⟩ := h
  exact ⟨r', c', e, h1.since hl, h2.trans (Turn.of_below (fp := fun b => b = r) hl) fun b hb => Or.inl hb, h3⟩
theorem InsJ.later (h : InsJ WD base r n x L fs vs W) (hl : Later W W') : InsJ WD base r n x L fs vs W' :=
  ⟨h.lf, h.lv, fun e => below_chain (h.below e) hl, fun e1 e2 => by
    obtain ⟨gb, h1, h2, h3⟩ := h.lit e1 e2
    exact ⟨gb, h1, h2.since hl, h3⟩, fun e => (h.done e).later hl, fun e => (h.fin e).later hl⟩
theorem InsJ.start (hv : vs.length = 3) : InsJ WD base r n x L [false, false, false] vs WD :=
  ⟨rfl, hv, fun _ => Below.refl _ _, fun e => (by cases e), fun e => (by cases e), fun e => (by cases e)⟩
theorem InsJ.build (h : InsJ WD base r n x L fs vs W) (f1 : fs.getD 1 false = false) (f2 : fs.getD 2 false = false) (hs : base ≤ WD.heap.size) : InsJ WD base r n x L (fs.set 0 true) (vs.set 0 (.slice (some ⟨W.heap.size, 0, none⟩) 1 1)) (W.alloc (.cells #[.int .u64 x.addr, .int .i64 x.page, .bool x.dirty, .int .i64 x.seq] 32)) := by
  have lf := h.lf
  have lv := h.lv
  have hbl := h.below f1
  refine ⟨by simpa using lf, by simpa using lv, fun _ => hbl.alloc hbl.size _, fun _ _ => ⟨W.heap.size, gs_self (by omega), rowEn_new W x, hbl.size⟩, fun e => ?_, fun e => ?_⟩
  · rw [gs_ne (by decide), f1] at e; cases e
  · rw [gs_ne (by decide), f2] at e; cases e
theorem InsJ.call (h : InsJ WD base r n x L fs vs W) (f0 : fs.getD 0 false = true) (f1 : fs.getD 1 false = false) (f2 : fs.getD 2 false = false) (hR : InsR WD base r n L W' v) : InsJ WD base r n x L (fs.set 1 true) (vs.set 1 v) W' := by
  have lf := h.lf
  have lv := h.lv
  refine ⟨by simpa using lf, by simpa using lv, fun e => ?_, fun _ e => ?_, fun _ => ?_, fun e => ?_⟩
  · rw [gs_self (by omega)] at e; cases e
  · rw [gs_self (by omega)] at e; cases e
  · rw [gs_self (by omega)]; exact hR
  · rw [gs_ne (by decide), f2] at e; cases e
theorem InsJ.assign (h : InsJ WD base r n x L fs vs W) (f1 : fs.getD 1 false = true) : InsJ WD base r n x L (fs.set 2 true) (vs.set 2 (vs.getD 1 undef)) W := by
  have lf := h.lf
  have lv := h.lv
  refine ⟨by simpa using lf, by simpa using lv, fun e => ?_, fun _ e => ?_, fun _ => ?_, fun _ => ?_⟩
  · rw [gs_ne (by decide), f1] at e; cases e
  · rw [gs_ne (by decide), f1] at e; cases e
  · rw [gs_ne (by decide)]; exact h.done f1
  · rw [gs_self (by omega)]; exact h.done f1
end
section
variable {w : World} {base g h cA r c n k : Nat} {l L : List E} {fp : Nat → Prop} {v : Value} {m d : Int}
/-- The row of rows behind the store of a row. -/
theorem TOne.stored (o : TOne w base fp l h cA r c) {w' : World} {r' c' : Nat} {fq : Nat → Prop} (hrows : w'.heap[h]? = w.heap[h]?) (hrow : entK.Row w' base (some ⟨r', 0, none⟩) L.length c' L) (hh : fq h) (hr : fq r') :
    TOne (w'.setCell ⟨h, 0, none⟩ (.slice (some ⟨r', 0, none⟩) L.length c')) base fq L h cA r' c' := by
  have h1 : esK.Row w' base (some ⟨h, 0, none⟩) 1 cA [⟨some ⟨r, 0, none⟩, l.length, c⟩] := Row.at_block o.rows fun b hb => by rw [blk_zero h b hb]; exact hrows
  have h2 := h1.put (i := 0) (r := 0) (by decide) (by decide) (.slice (some ⟨r', 0, none⟩) L.length c') ⟨some ⟨r', 0, none⟩, L.length, c'⟩ rfl trivial
  refine ⟨h2, Row.at_block hrow fun b hb => setCell_heap _ _ _ _ _ fun e => ?_, hh, hr⟩
  obtain ⟨cur, hc⟩ := Row.typed hrow b hb
  obtain ⟨cur', hc'⟩ := Row.typed h1 h (by simp [blk])
  rw [e] at hc
  have := other_type hc hc'
  revert this; decide
set_option maxHeartbeats 16000000 in
set_option maxRecDepth 20000 in
theorem tinsert_one (x : E) (hx : EWf x) (h0 : 0 < l.length) (hl : l.length < 120) (hk : k ≤ l.length) (K : TCore w base fp g l (.slice (some ⟨h, 0, none⟩) 1 cA) m d) (ho : TOne w base fp l h cA r c) :
    Calls Try.prog 27 #[.pointer (some ⟨g, 0, none⟩), .agg #[.int .i64 0, .int .i64 (k : Int)], entV x] w (TTurns w base fp g (l.take k ++ x :: l.drop k) m d) := by
  have HK := Lib.hid K
  have HEX := Lib.hid hx
  obtain ⟨WA, HWA⟩ : ∃ WA, Hid (WA = w.alloc (.cells #[.int .i64 0, .int .i64 (k : Int)] 54)) := ⟨_, rfl⟩
  have hbA : Below w.heap.size w WA := by rw [HWA.out]; exact (Below.refl _ _).alloc (Nat.le_refl _) _
  have pA : RowPl WA w.heap.size 0 k := by rw [HWA.out]; exact rowPl_new w 0 k
  obtain ⟨W2, HW2⟩ : ∃ W2, Hid (W2 = WA.alloc (.cells #[.int .u64 x.addr, .int .i64 x.page, .bool x.dirty, .int .i64 x.seq] 32)) := ⟨_, rfl⟩
  have hb2 : Below WA.heap.size WA W2 := by rw [HW2.out]; exact (Below.refl _ _).alloc (Nat.le_refl _) _
  have S2 := Lib.hid (below_chain hbA hb2)
  have P2 := Lib.hid (pA.since hb2)
  have X2 : Hid (RowEn W2 WA.heap.size x) := by rw [HW2.out]; exact rowEn_new WA x
  have hsz : WA.heap.size = w.heap.size + 1 := by rw [HWA.out]; simp
  have K2 := Lib.hid (K.since S2.out)
  have O2 := Lib.hid (ho.since S2.out)
  have c0 := K2.out.c0
  rw [HW2.out, HWA.out] at c0
  obtain ⟨b1, HB1⟩ : ∃ b1, Hid (w.heap.size = b1) := ⟨_, rfl⟩
  obtain ⟨b2, HB2⟩ : ∃ b2, Hid (w.heap.size + 1 = b2) := ⟨_, rfl⟩
  rw [hsz, HB2.out] at X2
  rw [HB1.out] at P2
  have HBZ : Hid (b1 = w.heap.size ∧ b2 = w.heap.size + 1) := ⟨HB1.out.symm, HB2.out.symm⟩
  obtain ⟨n, HN⟩ : ∃ n, Hid (l.length = n) := ⟨_, rfl⟩
  have HN4 : Hid (n < 120) := by rw [← HN.out]; exact hl
  have HKN : Hid (k ≤ n) := by rw [← HN.out]; exact hk
  clear K ho hbA pA hb2 hx h0 hl hk
  go_enter Try.func27, Try.ntmps27
  unfold entV
  go_wp2_with fail
  rw [HB2.out, HB1.out, ← HWA.out, ← HW2.out]
  clear c0 HWA HW2 HB1 HB2 hsz
  obtain ⟨WD, HWD⟩ : ∃ W, Hid (W = W2.drew) := ⟨_, rfl⟩
  have HDL : Hid (Below W2.heap.size W2 WD) := by rw [HWD.out]; exact (Below.refl _ _).drew
  have HKD := Lib.hid (K2.out.since HDL.out)
  have HPD := Lib.hid (P2.out.since HDL.out)
  have HXD := Lib.hid (X2.out.since HDL.out)
  have HOD := Lib.hid (O2.out.since HDL.out)
  have SD := Lib.hid (below_chain S2.out HDL.out)
  have HRD : Hid (entK.Row WD base (some ⟨r, 0, none⟩) n c l) := by rw [← HN.out]; exact HOD.out.row
  have HSB : Hid (base ≤ WD.heap.size) := HKD.out.base_le
  have HBS : Hid (base ≤ WD.heap.size) := HKD.out.base_le
  clear K2 P2 X2 O2 S2 HDL
  obtain ⟨L, HLL⟩ : ∃ L, Hid (l.take k ++ x :: l.drop k = L) := ⟨_, rfl⟩
  rw [HLL.out]
  obtain ⟨n1, HN1⟩ : ∃ q, Hid (n + 1 = q) := ⟨_, rfl⟩
  refine region_of_steps7 (by kernel_rfl) [some (.pointer (some ⟨g, 0, none⟩)), some (.pointer (some ⟨g, 0, none⟩)), some (.pointer (some ⟨g, 0, none⟩)), some (.slice (some ⟨h, 0, none⟩) 1 cA), some (.pointer (some ⟨b1, 0, none⟩)), some (.int .i64 0), some (.pointer (some ⟨h, 0, none⟩)), some (.slice (some ⟨r, 0, none⟩) n c), some (.pointer (some ⟨b1, 1, none⟩)), some (.int .i64 (k : Int)), some (entV x), none, none, none] [11, 12, 13] [31, 32, 6] (InsJ WD base r n1 x L) (by kernel_rfl) (by kernel_rfl) (by rw [← HWD.out]; exact InsJ.start (by rw [slots_len]; rfl)) ?_ ?_
  · refine Steps7.cons ?_ (Steps7.cons ?_ (Steps7.cons ?_ (Steps7.cons ?_ (Steps7.cons ?_ (Steps7.cons ?_ (Steps7.cons ?_ (Steps7.cons ?_ (Steps7.cons ?_ (Steps7.cons ?_ (Steps7.cons ?_ (Steps7.cons ?_ (Steps7.cons ?_ (Steps7.cons ?_ (Steps7.nil))))))))))))))
    · intro listed a W H hj hl hd
      have t0 : a.tmps.getD 0 undef = .pointer (some ⟨g, 0, none⟩) := (H.old 0 (by kernel_rfl)).trans rfl
      exact step7_value (i := 0) rfl rfl (run_op_move rfl t0) (calm7 (fun fs vs x y h hl => InsJ.later h hl) (by kernel_rfl) (by kernel_rfl) hj (later_refl _)) rfl
    · intro listed a W H hj hl hd
      have t20 : a.tmps.getD 20 undef = .pointer (some ⟨g, 0, none⟩) := H.get 0 20 (by kernel_rfl) (dep_of hd 0 (by kernel_rfl)) (fun _ h => by cases h)
      exact step7_value (i := 1) rfl rfl (run_op_nilCheck rfl t20) (calm7 (fun fs vs x y h hl => InsJ.later h hl) (by kernel_rfl) (by kernel_rfl) hj (later_refl _)) rfl
    · intro listed a W H hj hl hd
      have t21 : a.tmps.getD 21 undef = .pointer (some ⟨g, 0, none⟩) := H.get 1 21 (by kernel_rfl) (dep_of hd 1 (by kernel_rfl)) (fun _ h => by cases h)
      exact step7_value (i := 2) rfl rfl (run_op_fieldAddr rfl t21 (run_field_t0 g W)) (calm7 (fun fs vs x y h hl => InsJ.later h hl) (by kernel_rfl) (by kernel_rfl) hj (later_refl _)) rfl
    · intro listed a W H hj hl hd
      have t22 : a.tmps.getD 22 undef = .pointer (some ⟨g, 0, none⟩) := H.get 2 22 (by kernel_rfl) (dep_of hd 2 (by kernel_rfl)) (fun _ h => by cases h)
      exact step7_value (i := 3) rfl rfl (run_op_load rfl t22 (run_load_rows g _ W (HKD.out.since (hj.below (H.notyets 4 hl (by kernel_rfl) : (flags [11, 12, 13] listed).getD 1 false = false))).c0)) (calm7 (fun fs vs x y h hl => InsJ.later h hl) (by kernel_rfl) (by kernel_rfl) hj (later_refl _)) rfl
    · intro listed a W H hj hl hd
      have t4 : a.tmps.getD 4 undef = .pointer (some ⟨b1, 0, none⟩) := (H.old 4 (by kernel_rfl)).trans rfl
      exact step7_value (i := 4) rfl rfl (run_op_fieldAddr rfl t4 (run_field_p0 b1 W)) (calm7 (fun fs vs x y h hl => InsJ.later h hl) (by kernel_rfl) (by kernel_rfl) hj (later_refl _)) rfl
    · intro listed a W H hj hl hd
      have t24 : a.tmps.getD 24 undef = .pointer (some ⟨b1, 0, none⟩) := H.get 4 24 (by kernel_rfl) (dep_of hd 4 (by kernel_rfl)) (fun _ h => by cases h)
      exact step7_value (i := 5) rfl rfl (run_op_load rfl t24 (run_load_int b1 0 _ W (HPD.out.since (hj.below (H.notyets 4 hl (by kernel_rfl) : (flags [11, 12, 13] listed).getD 1 false = false))).c0)) (calm7 (fun fs vs x y h hl => InsJ.later h hl) (by kernel_rfl) (by kernel_rfl) hj (later_refl _)) rfl
    · intro listed a W H hj hl hd
      have t23 : a.tmps.getD 23 undef = .slice (some ⟨h, 0, none⟩) 1 cA := H.get 3 23 (by kernel_rfl) (dep_of hd 3 (by kernel_rfl)) (fun _ h => by cases h)
      have t25 : a.tmps.getD 25 undef = .int .i64 0 := H.get 5 25 (by kernel_rfl) (dep_of hd 5 (by kernel_rfl)) (fun _ h => by cases h)
      exact step7_value (i := 6) rfl rfl (run_op_index rfl t23 t25 (run_index_rows h cA W)) (calm7 (fun fs vs x y h hl => InsJ.later h hl) (by kernel_rfl) (by kernel_rfl) hj (later_refl _)) rfl
    · intro listed a W H hj hl hd
      have t26 : a.tmps.getD 26 undef = .pointer (some ⟨h, 0, none⟩) := H.get 6 26 (by kernel_rfl) (dep_of hd 6 (by kernel_rfl)) (fun _ h => by cases h)
      exact step7_value (i := 7) rfl rfl (run_op_load rfl t26 (run_load_ents h n c (some ⟨r, 0, none⟩) W (HN.out ▸ (HOD.out.since (hj.below (H.notyets 4 hl (by kernel_rfl) : (flags [11, 12, 13] listed).getD 1 false = false))).c0))) (calm7 (fun fs vs x y h hl => InsJ.later h hl) (by kernel_rfl) (by kernel_rfl) hj (later_refl _)) rfl
    · intro listed a W H hj hl hd
      have t4 : a.tmps.getD 4 undef = .pointer (some ⟨b1, 0, none⟩) := (H.old 4 (by kernel_rfl)).trans rfl
      exact step7_value (i := 8) rfl rfl (run_op_fieldAddr rfl t4 (run_field_p1 b1 W)) (calm7 (fun fs vs x y h hl => InsJ.later h hl) (by kernel_rfl) (by kernel_rfl) hj (later_refl _)) rfl
    · intro listed a W H hj hl hd
      have t28 : a.tmps.getD 28 undef = .pointer (some ⟨b1, 1, none⟩) := H.get 8 28 (by kernel_rfl) (dep_of hd 8 (by kernel_rfl)) (fun _ h => by cases h)
      exact step7_value (i := 9) rfl rfl (run_op_load rfl t28 (run_load_int b1 1 _ W (HPD.out.since (hj.below (H.notyets 4 hl (by kernel_rfl) : (flags [11, 12, 13] listed).getD 1 false = false))).c1)) (calm7 (fun fs vs x y h hl => InsJ.later h hl) (by kernel_rfl) (by kernel_rfl) hj (later_refl _)) rfl
    · intro listed a W H hj hl hd
      have t5 : a.tmps.getD 5 undef = .pointer (some ⟨b2, 0, none⟩) := (H.old 5 (by kernel_rfl)).trans rfl
      exact step7_value (i := 10) rfl rfl (run_op_load rfl t5 (run_load_ent b2 x W (HXD.out.since (hj.below (H.notyets 4 hl (by kernel_rfl) : (flags [11, 12, 13] listed).getD 1 false = false))))) (calm7 (fun fs vs x y h hl => InsJ.later h hl) (by kernel_rfl) (by kernel_rfl) hj (later_refl _)) rfl
    · intro listed a W H hj hl hd
      have t30 : a.tmps.getD 30 undef = entV x := H.get 10 30 (by kernel_rfl) (dep_of hd 10 (by kernel_rfl)) (fun _ h => by cases h)
      have f1 : (flags [11, 12, 13] listed).getD 1 false = false := (H.notyets 4 hl (by kernel_rfl) : (flags [11, 12, 13] listed).getD 1 false = false)
      have f2 : (flags [11, 12, 13] listed).getD 2 false = false := (H.notyets 4 hl (by kernel_rfl) : (flags [11, 12, 13] listed).getD 2 false = false)
      have hk9 := hj.build f1 f2 HSB.out
      rw [← flags_put (m := 11) 0 rfl (by decide), ← slots_at (a := a) (d := 31) 0 rfl (by decide) (by rw [H.size]; exact of_decide_eq_true (by kernel_rfl))] at hk9
      exact step7_value (i := 11) rfl rfl (run_op_build rfl (by simp only [List.map_toArray, List.map_cons, List.map_nil]; show (Instr.buildSlice 27 1 #[(0, a.tmps.getD 30 undef)]).run _ _ = _; rw [t30]; exact run_build_ent x W)) hk9 trivial
    · intro listed a W H hj hl hd
      have t27 : a.tmps.getD 27 undef = .slice (some ⟨r, 0, none⟩) n c := H.get 7 27 (by kernel_rfl) (dep_of hd 7 (by kernel_rfl)) (fun _ h => by cases h)
      have t29 : a.tmps.getD 29 undef = .int .i64 (k : Int) := H.get 9 29 (by kernel_rfl) (dep_of hd 9 (by kernel_rfl)) (fun _ h => by cases h)
      have d31 : listed.getD 11 false = true := dep_of hd 11 (by kernel_rfl)
      refine step7_call (i := 12) rfl rfl (run_op_call (vs := #[.slice (some ⟨r, 0, none⟩) n c, .int .i64 (k : Int), a.tmps.getD 31 undef]) Try.func37 (by kernel_rfl) (by kernel_rfl) rfl (by simp only [List.map_toArray, List.map_cons, List.map_nil]; show #[a.tmps.getD 27 undef, a.tmps.getD 29 undef, a.tmps.getD 31 undef] = _; rw [t27, t29])) ?_
      have f0 : (flags [11, 12, 13] listed).getD 0 false = true := done_true (dep_of hd 11 (by kernel_rfl))
      have f1 : (flags [11, 12, 13] listed).getD 1 false = false := hl
      have f2 : (flags [11, 12, 13] listed).getD 2 false = false := (H.notyets 4 hl (by kernel_rfl) : (flags [11, 12, 13] listed).getD 2 false = false)
      obtain ⟨gb, e31, hgb, hge⟩ := hj.lit f0 f1
      have e31b : a.tmps.getD 31 undef = .slice (some ⟨gb, 0, none⟩) 1 1 := e31
      rw [e31b]
      have HB := hj.below f1
      have hrl := HRD.out.block_lt r rfl
      refine (insE_any (HRD.out.since HB) HEX.out hgb (by omega) (Nat.le_trans HBS.out HB.size) (Nat.lt_of_lt_of_le hrl HB.size) HKN.out HN4.out).mono ?_
      rintro e W9 ⟨r9, c9, rfl, hR9, hT9, hr9⟩
      rw [HN1.out] at hR9 ⊢
      rw [HLL.out] at hR9
      have hk9 := hj.call f0 f1 f2 ⟨r9, c9, rfl, hR9, (Turn.of_below HB).trans hT9 fun b hb => Or.inl hb, hr9.imp id fun q => Nat.le_trans HB.size q⟩
      rw [← flags_put (m := 12) 1 rfl (by decide), ← slots_at (a := a) (d := 32) 1 rfl (by decide) (by rw [H.size]; exact of_decide_eq_true (by kernel_rfl))] at hk9
      exact ⟨_, rfl, hk9, trivial⟩
    · intro listed a W H hj hl hd
      have d32 : listed.getD 12 false = true := dep_of hd 12 (by kernel_rfl)
      have f1 : (flags [11, 12, 13] listed).getD 1 false = true := done_true (dep_of hd 12 (by kernel_rfl))
      have hk9 := hj.assign f1
      rw [← flags_put (m := 13) 2 rfl (by decide), ← slots_at (a := a) (d := 6) 2 rfl (by decide) (by rw [H.size]; exact of_decide_eq_true (by kernel_rfl))] at hk9
      exact step7_value (i := 13) rfl rfl (run_op_assign rfl rfl) hk9 trivial
  · intro a WC hdef hsz hw hall hact
    obtain ⟨u, hu⟩ : ∃ u : Nat → Value, ∀ k, a.tmps.getD k undef = u k := ⟨_, fun _ => rfl⟩
    simp only [hu] at hact
    have hact' : a = ([20, 21, 22, 23, 24, 25, 26, 27, 28, 29, 30, 31, 32, 6] : List Nat).foldl (fun b k => b.put (some k) (u k)) _ := hact
    simp only [List.foldl] at hact'
    simp only [Act.put, List.setIfInBounds_toArray, List.set_cons_succ, List.set_cons_zero] at hact'
    have HAC := Lib.hid hact'
    have HX := Lib.hid hw
    clear hact hact' hall hdef hsz hw
    rw [HAC.out]
    obtain ⟨r5, c5, e5, hR5, hT5, hr5⟩ := HX.out.fin rfl
    have e6 : u 6 = .slice (some ⟨r5, 0, none⟩) n1 c5 := (hu 6).symm.trans e5
    rw [e6]
    have hgr : g ≠ r := fun e => by
      obtain ⟨cur, hc⟩ := Row.typed HRD.out r (by simp [blk])
      exact HKD.out.tab_other hc (by decide) e.symm
    have hhr : h ≠ r := fun e => by
      obtain ⟨cur, hc⟩ := Row.typed HRD.out r (by simp [blk])
      obtain ⟨cur2, hc2⟩ := Row.typed HOD.out.rows h (by simp [blk])
      rw [e] at hc2
      have := other_type hc2 hc
      revert this; decide
    have hhg : h ≠ g := fun e => by
      obtain ⟨cur2, hc2⟩ := Row.typed HOD.out.rows h (by simp [blk])
      exact HKD.out.tab_other hc2 (by decide) e
    have hlt : h < WD.heap.size := HKD.out.lt h HOD.out.fh
    have hgt : WC.drew.heap[g]? = some (.cells #[.slice (some ⟨h, 0, none⟩) 1 cA, .int .i64 m, .int .i64 d] 52 (0, 0)) := (hT5.block g HKD.out.glt hgr).trans HKD.out.tab
    have hht : WC.drew.heap[h]? = WD.heap[h]? := hT5.block h hlt hhr
    have hpr : b1 ≠ r := fun e => by have := HBZ.out.1; have := HK.out.lt r (HOD.out.fr); omega
    have hpl : RowPl WC.drew b1 0 k := ⟨(hT5.block b1 HPD.out.lt hpr).trans HPD.out.row⟩
    have c0 : WC.drew.cell? ⟨g, 0, none⟩ = some (.slice (some ⟨h, 0, none⟩) 1 cA) := by rw [cell_of_row _ _ _ _ _ _ hgt]; rfl
    have p0 := hpl.c0
    have hrow := HOD.out.rows
    have ch : WC.drew.cell? ⟨h, 0, none⟩ = some (.slice (some ⟨r, 0, none⟩) l.length c) := (same_cell hht rfl).trans HOD.out.c0
    have fh : WC.drew.frozen? ⟨h, 0, none⟩ = false := by
      obtain ⟨cur2, hc2⟩ := Row.typed HOD.out.rows h (by simp [blk])
      simp [World.frozen?, hht.trans hc2]
    have hR6 : entK.Row WC.drew base (some ⟨r5, 0, none⟩) L.length c5 L := by rw [hR5.len]; exact hR5.since (Below.refl _ _).drew
    have hLn : L.length = n1 := hR5.len
    have hin : ∀ b, fp b → b < w.heap.size := HK.out.lt
    have hsz5 : r5 < WC.heap.size := hR5.block_lt r5 rfl
    have hws : w.heap.size ≤ WD.heap.size := SD.out.size
    have htw : Turn fp w (WC.drew.setCell ⟨h, 0, none⟩ (.slice (some ⟨r5, 0, none⟩) L.length c5)) := (((Turn.of_below (fp := fp) SD.out).trans hT5 fun b hb => Or.inl (by rw [hb]; exact HOD.out.fr)).trans (Turn.of_below (fp := fp) (Below.refl _ _).drew) fun b hb => Or.inl hb).trans (Turn.of_setCell (fp := fp) _ _ HOD.out.fh) fun b hb => Or.inl hb
    have hfin := HOD.out.stored (w' := WC.drew) (fq := newer fp w (WC.drew.setCell ⟨h, 0, none⟩ (.slice (some ⟨r5, 0, none⟩) L.length c5))) hht hR6 (Or.inl HOD.out.fh) (by
      rcases hr5 with e | e
      · rw [e]; exact Or.inl HOD.out.fr
      · refine Or.inr ⟨Nat.le_trans hws e, ?_⟩
        have : r5 < WC.drew.heap.size := hsz5
        simpa [World.setCell] using this)
    have HF : Hid (TTurns w base fp g L m d (.returned (.tuple #[])) (WC.drew.setCell ⟨h, 0, none⟩ (.slice (some ⟨r5, 0, none⟩) n1 c5))) := by
      rw [← hLn]
      exact ⟨rfl, _, HK.out.fin htw ((setCell_heap _ _ _ _ _ hhg.symm).trans hgt) (Or.inr ⟨by rw [hLn, ← HN1.out]; exact Nat.succ_pos _, h, cA, r5, c5, rfl, hfin⟩)⟩
    have z1 : ¬ ((n1 : Int) > 128) := by have := HN1.out; have := HN4.out; omega
    clear hR5 hT5 hr5 e5 e6 hgr hhr hhg hlt hgt hht hpr hpl hrow hR6 hLn hin hsz5 hws htw hfin HX hu HAC
    go_wp2_with fail
    go_region
    go_wp2_with fail
    go_end0
    rw [HLL.out]
    exact HF.out
end
end Go.Proofs.Ythamnmadgfmbkaa
