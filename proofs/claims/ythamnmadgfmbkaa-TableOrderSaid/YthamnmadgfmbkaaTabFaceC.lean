/- The landed table: Copy. Conditions: the table's cells. -/
import Derived.Test.YthamnmadgfmbkaaTabFaceF
set_option linter.unusedVariables false
set_option linter.unusedSimpArgs false
namespace Go.Proofs.Ythamnmadgfmbkaa
open Go.RowKit

theorem run_build_rows (A : Option Addr) (n c : Nat) (w : World) : (Instr.buildSlice 50 1 #[(0, .slice A n c)]).run Try.prog w = .ok (.slice (some ⟨w.heap.size, 0, none⟩) 1 1) (w.alloc (.cells #[.slice A n c] 27)) := by go_simp
/-- A row of entries that is new. -/
def CopR (WD : World) (n : Nat) (l : List E) (W : World) (A : Option Addr) (c : Nat) : Prop := entK.Row W WD.heap.size A n c l
/-- Behind the store of the rows. -/
def CopZ (WD : World) (g n : Nat) (l : List E) (W : World) : Prop :=
  ∃ A2 c2 A c W3, esK.Row W3 WD.heap.size A2 1 c2 [⟨A, n, c⟩] ∧ CopR WD n l W3 A c ∧ Below WD.heap.size WD W3 ∧ Below (W3.setCell ⟨g, 0, none⟩ (.slice A2 1 c2)).heap.size (W3.setCell ⟨g, 0, none⟩ (.slice A2 1 c2)) W
/-- fs: cloned, laid, appended, stored; vs: the slots of the first three. -/
structure CopJ (WD : World) (g n : Nat) (l : List E) (fs : List Bool) (vs : List Value) (W : World) : Prop where
  lf : fs.length = 4
  lv : vs.length = 3
  below : fs.getD 3 false = false → Below WD.heap.size WD W
  ord : fs.getD 2 false = true → fs.getD 1 false = true
  cl : fs.getD 0 false = true → fs.getD 1 false = false → ∃ A c, vs.getD 0 undef = .slice A n c ∧ CopR WD n l W A c
  lit : fs.getD 1 false = true → fs.getD 2 false = false → ∃ gb A c, vs.getD 1 undef = .slice (some ⟨gb, 0, none⟩) 1 1 ∧ esK.Lie W W.heap.size (some ⟨gb, 0, none⟩) 1 [⟨A, n, c⟩] ∧ CopR WD n l W A c
  app : fs.getD 2 false = true → fs.getD 3 false = false → ∃ A2 c2 A c, vs.getD 2 undef = .slice A2 1 c2 ∧ esK.Row W WD.heap.size A2 1 c2 [⟨A, n, c⟩] ∧ CopR WD n l W A c
  put : fs.getD 3 false = true → CopZ WD g n l W
section
variable {WD W W' : World} {g n : Nat} {l : List E} {fs : List Bool} {vs : List Value} {v : Value}
theorem CopR.since {A : Option Addr} {c : Nat} (h : CopR WD n l W A c) (hl : Later W W') : CopR WD n l W' A c := Kind.Row.since h hl
theorem CopZ.later (h : CopZ WD g n l W) (hl : Later W W') : CopZ WD g n l W' := by
  obtain ⟨A2, c2, A, c, W3, h1, h2, h3, h4⟩ := h
  exact ⟨A2, c2, A, c, W3, h1, h2, h3, below_chain h4 hl⟩
theorem CopJ.later (h : CopJ WD g n l fs vs W) (hl : Later W W') : CopJ WD g n l fs vs W' :=
  ⟨h.lf, h.lv, fun e => below_chain (h.below e) hl, h.ord, fun e1 e2 => by
    obtain ⟨A, c, h1, h2⟩ := h.cl e1 e2
    exact ⟨A, c, h1, h2.since hl⟩, fun e1 e2 => by
    obtain ⟨gb, A, c, h1, h2, h3⟩ := h.lit e1 e2
    exact ⟨gb, A, c, h1, h2.since hl, h3.since hl⟩, fun e1 e2 => by
    obtain ⟨A2, c2, A, c, h1, h2, h3⟩ := h.app e1 e2
    exact ⟨A2, c2, A, c, h1, h2.since hl, h3.since hl⟩, fun e => (h.put e).later hl⟩
theorem CopJ.start (hv : vs.length = 3) : CopJ WD g n l [false, false, false, false] vs WD :=
  ⟨rfl, hv, fun _ => Below.refl _ _, fun e => (by cases e), fun e => (by cases e), fun e => (by cases e), fun e => (by cases e), fun e => (by cases e)⟩
theorem CopJ.call (h : CopJ WD g n l fs vs W) (f1 : fs.getD 1 false = false) (f2 : fs.getD 2 false = false) (f3 : fs.getD 3 false = false) (hv : ∃ A c, v = .slice A n c ∧ CopR WD n l W' A c) (hb : Below WD.heap.size WD W') : CopJ WD g n l (fs.set 0 true) (vs.set 0 v) W' := by
  have lf := h.lf
  have lv := h.lv
  refine ⟨by simpa using lf, by simpa using lv, fun _ => hb, fun e => ?_, fun _ _ => ?_, fun e _ => ?_, fun e _ => ?_, fun e => ?_⟩
  · rw [gs_ne (by decide), f2] at e; cases e
  · rw [gs_self (by omega)]; exact hv
  · rw [gs_ne (by decide), f1] at e; cases e
  · rw [gs_ne (by decide), f2] at e; cases e
  · rw [gs_ne (by decide), f3] at e; cases e
theorem CopJ.build (h : CopJ WD g n l fs vs W) (f0 : fs.getD 0 false = true) (f1 : fs.getD 1 false = false) (f2 : fs.getD 2 false = false) (f3 : fs.getD 3 false = false) :
    ∃ A c, vs.getD 0 undef = .slice A n c ∧ CopJ WD g n l (fs.set 1 true) (vs.set 1 (.slice (some ⟨W.heap.size, 0, none⟩) 1 1)) (W.alloc (.cells #[.slice A n c] 27)) := by
  have lf := h.lf
  have lv := h.lv
  obtain ⟨A, c, e0, hr⟩ := h.cl f0 f1
  have hl : Later W (W.alloc (.cells #[.slice A n c] 27)) := (Below.refl _ _).alloc (Nat.le_refl _) _
  refine ⟨A, c, e0, by simpa using lf, by simpa using lv, fun _ => below_chain (h.below f3) hl, fun _ => gs_self (by omega), fun _ e => ?_, fun _ _ => ⟨W.heap.size, A, c, gs_self (by omega), Kind.new1 (K := esK) W ⟨A, n, c⟩ trivial _ rfl, hr.since hl⟩, fun e _ => ?_, fun e => ?_⟩
  · rw [gs_self (by omega)] at e; cases e
  · rw [gs_ne (by decide), f2] at e; cases e
  · rw [gs_ne (by decide), f3] at e; cases e
theorem CopJ.append (h : CopJ WD g n l fs vs W) (f1 : fs.getD 1 false = true) (f2 : fs.getD 2 false = false) (f3 : fs.getD 3 false = false) :
    ∃ A2 c2 W2, (Builtin.append_ #[esK.L, esK.L] esK.L #[.slice none 0 0, vs.getD 1 undef]).run Try.prog W = .ok (.slice A2 1 c2) W2 ∧ CopJ WD g n l (fs.set 2 true) (vs.set 2 (.slice A2 1 c2)) W2 := by
  have lf := h.lf
  have lv := h.lv
  have hbl := h.below f3
  obtain ⟨gb, A, c, e1, hL, hr⟩ := h.lit f1 f2
  obtain ⟨A2, c2, W2, r1, ho, hg⟩ := Kind.append_b (K := esK) (base := WD.heap.size) (c' := 1) hbl.size (Kind.Row.none_ (K := esK)) hL (by decide)
  rw [List.nil_append] at ho
  have hl : Later W W2 := (Below.refl _ _).grown hg (Nat.le_refl _) (fun b hb => by cases hb)
  refine ⟨A2, c2, W2, by rw [e1]; exact r1, by simpa using lf, by simpa using lv, fun _ => below_chain hbl hl, fun _ => (by rw [gs_ne (by decide)]; exact f1), fun _ e => ?_, fun _ e => ?_, fun _ _ => ⟨A2, c2, A, c, gs_self (by omega), ho, hr.since hl⟩, fun e => ?_⟩
  · rw [gs_ne (by decide), f1] at e; cases e
  · rw [gs_self (by omega)] at e; cases e
  · rw [gs_ne (by decide), f3] at e; cases e
theorem CopJ.store (h : CopJ WD g n l fs vs W) (f2 : fs.getD 2 false = true) (f3 : fs.getD 3 false = false) : ∃ A2 c2, vs.getD 2 undef = .slice A2 1 c2 ∧ CopJ WD g n l (fs.set 3 true) vs (W.setCell ⟨g, 0, none⟩ (.slice A2 1 c2)) := by
  have lf := h.lf
  obtain ⟨A2, c2, A, c, e2, h2, h3⟩ := h.app f2 f3
  have f1 := h.ord f2
  refine ⟨A2, c2, e2, by simpa using lf, h.lv, fun e => ?_, fun _ => (by rw [gs_ne (by decide)]; exact f1), fun _ e => ?_, fun _ e => ?_, fun _ e => ?_, fun _ => ⟨A2, c2, A, c, W, h2, h3, h.below f3, Below.refl _ _⟩⟩
  · rw [gs_self (by omega)] at e; cases e
  · rw [gs_ne (by decide), f1] at e; cases e
  · rw [gs_ne (by decide), f2] at e; cases e
  · rw [gs_self (by omega)] at e; cases e
end
section
variable {w : World} {base g h cA r c : Nat} {l : List E} {fp : Nat → Prop} {v : Value} {m d : Int}
/-- A new table whose rows were laid. -/
theorem cop_new {WD W : World} {b1 n : Nat} (hw : TW l) (hS : Below w.heap.size w WD) (h1 : w.heap.size ≤ b1) (ht : WD.heap[b1]? = some (.cells #[.slice none 0 0, .int .i64 (l.length : Int), .int .i64 (dirtyT l : Int)] 52 (0, 0))) (hn : l.length = n) (h0 : 0 < n) (hz : CopZ WD b1 n l W) :
    ∃ fp, TabAt W w.heap.size fp b1 l ∧ Below w.heap.size w W := by
  obtain ⟨A2, c2, A, c, W3, q1, q2, q3, q4⟩ := hz
  have hb1 : b1 < WD.heap.size := (Array.getElem?_eq_some_iff.1 ht).1
  obtain ⟨h', rfl⟩ := row_some q1 (by decide)
  have q2' : entK.Row W3 WD.heap.size A n c l := q2
  obtain ⟨r', rfl⟩ := row_some q2' h0
  have gh := Row.blk_ge q1 h' (by simp [blk])
  have gr := Row.blk_ge q2' r' (by simp [blk])
  have hg3 : W3.heap[b1]? = some (.cells #[.slice none 0 0, .int .i64 (l.length : Int), .int .i64 (dirtyT l : Int)] 52 (0, 0)) := (q3.block b1 hb1).trans ht
  have hg4 := tab_set0 hg3 (.slice (some ⟨h', 0, none⟩) 1 c2)
  have hg5 := (q4.block b1 (Array.getElem?_eq_some_iff.1 hg4).1).trans hg4
  have p1 : esK.Row W WD.heap.size (some ⟨h', 0, none⟩) 1 c2 [⟨some ⟨r', 0, none⟩, n, c⟩] := (Row.at_block q1 fun b hb => setCell_heap _ _ _ _ _ (by rw [blk_zero h' b hb]; omega)).since q4
  have p2 : entK.Row W WD.heap.size (some ⟨r', 0, none⟩) n c l := (Row.at_block q2' fun b hb => setCell_heap _ _ _ _ _ (by rw [blk_zero r' b hb]; omega)).since q4
  have hwd : w.heap.size ≤ WD.heap.size := hS.size
  have hB : Below w.heap.size w W := by
    have e1 : Below w.heap.size w W3 := hS.trans ⟨q3.os, q3.tape, q3.output, q3.size, fun b hb => q3.block b (Nat.lt_of_lt_of_le hb hwd)⟩
    have e2 : Below w.heap.size w (W3.setCell ⟨b1, 0, none⟩ (.slice (some ⟨h', 0, none⟩) 1 c2)) := e1.grown (setCell_else W3 ⟨b1, 0, none⟩ _) e1.size fun b e => by rw [← Option.some.inj e]; exact h1
    exact below_chain e2 q4
  subst hn
  refine ⟨fun b => w.heap.size ≤ b ∧ b < W.heap.size, ⟨hw, _, ⟨h1, (Array.getElem?_eq_some_iff.1 hg5).1⟩, fun b hb => hb.1, fun b hb => hb.2, hg5, Or.inr ⟨h0, h', c2, r', c, rfl, p1.elder hwd, p2.elder hwd, ⟨Nat.le_trans hwd gh, ?_⟩, ⟨Nat.le_trans hwd gr, ?_⟩⟩⟩, hB⟩
  · exact Row.blk_lt p1 h' (by simp [blk])
  · exact Row.blk_lt p2 r' (by simp [blk])
set_option maxHeartbeats 8000000 in
set_option maxRecDepth 20000 in
theorem tcopy_any (hD : TabAt w base fp g l) : Calls Try.prog 20 #[.pointer (some ⟨g, 0, none⟩)] w (NewT w l) := by
  obtain ⟨v, K⟩ := hD.core
  have HTW := Lib.hid hD.wf
  obtain ⟨o, HO⟩ : ∃ o, Hid (Obj.cells #[.slice none 0 0, .int .i64 (l.length : Int), .int .i64 (dirtyT l : Int)] 52 = o) := ⟨_, rfl⟩
  have hb0 : Below w.heap.size w (w.alloc o) := (Below.refl _ _).alloc (Nat.le_refl _) _
  have hbd : Below w.heap.size w (w.alloc o).drew := hb0.drew
  have S1 := Lib.hid hbd
  have T1 : Hid ((w.alloc o).drew.heap[w.heap.size]? = some (.cells #[.slice none 0 0, .int .i64 (l.length : Int), .int .i64 (dirtyT l : Int)] 52 (0, 0))) := by rw [← HO.out]; exact heap_alloc_new w _
  have c1 := (K.since (Below.refl _ _).drew).c1
  have c2 := (K.since (Below.refl _ _).drew).c2
  have K1 := Lib.hid (K.since hbd)
  clear hD hb0 hbd
  go_enter Try.func20, Try.ntmps20
  go_wp2_with fail
  go_region
  clear c1 c2
  obtain ⟨W1, HW1⟩ : ∃ W, Hid (W = (w.alloc o).drew) := ⟨_, rfl⟩
  rw [HO.out, ← HW1.out]
  rw [← HW1.out] at S1 T1 K1
  obtain ⟨b1, HB1⟩ : ∃ b, Hid (w.heap.size = b) := ⟨_, rfl⟩
  rw [HB1.out] at T1 ⊢
  have HBW : Hid (w.heap.size ≤ b1) := Nat.le_of_eq HB1.out
  have c0 := K1.out.c0
  rcases K1.out.rows with ⟨rfl, A, cA, rfl, hr, hf⟩ | ⟨h0, h, cA, r, c, rfl, ho⟩
  · have HF : Hid (NewT w [] (.returned (.pointer (some ⟨b1, 0, none⟩))) W1) := by
      refine ⟨b1, fun b => b = b1, rfl, ⟨tw_nil, .slice none 0 0, rfl, fun b e => by rw [e]; exact HBW.out, fun b e => by rw [e]; exact (Array.getElem?_eq_some_iff.1 T1.out).1, T1.out, Or.inl ⟨rfl, none, 0, rfl, Kind.Row.none_, fun b hb => by cases hb⟩⟩, S1.out⟩
    clear hr hf K HB1
    go_wp2_with fail
    go_loopw [23] (fun t23 wr => t23 = .int .i64 0 ∧ Hid (wr = W1)) (fun _ _ => 0)
    case atStart => exact ⟨rfl, rfl⟩
    case round =>
      obtain ⟨rfl, hw⟩ := hrel
      have hw' := hw.out
      subst hw'
      go_wp2_with fail
      go_ret
      exact HF.out
  · have O1 := Lib.hid ho
    have H0 := Lib.hid h0
    obtain ⟨n, HN⟩ : ∃ n, Hid (l.length = n) := ⟨_, rfl⟩
    have HN8 : Hid (n ≤ 8000) := by rw [← HN.out]; exact Nat.le_trans HTW.out.few (by decide)
    clear ho h0 K HB1
    go_wp2_with fail
    go_loopw [23] (fun t23 wr => (t23 = .int .i64 0 ∧ Hid (wr = W1)) ∨ (t23 = .int .i64 1 ∧ ∃ fq, Hid (TabAt wr w.heap.size fq b1 l) ∧ Hid (Below w.heap.size w wr))) (fun t23 _ => 1 - (intOf t23).toNat)
    case atStart => exact Or.inl ⟨rfl, rfl⟩
    case round =>
      rcases hrel with ⟨rfl, hw⟩ | ⟨rfl, fq, HA, HB⟩
      · have hw' := hw.out
        subst hw'
        have t0 := O1.out.c0
        rw [HN.out] at t0
        clear c0
        go_wp2_with fail
        clear t0
        obtain ⟨WD, HWD⟩ : ∃ W, Hid (W = wr.drew) := ⟨_, rfl⟩
        have HDL : Below wr.heap.size wr WD := by rw [HWD.out]; exact (Below.refl _ _).drew
        have SD := Lib.hid (below_chain S1.out HDL)
        have hb1lt : b1 < wr.heap.size := (Array.getElem?_eq_some_iff.1 T1.out).1
        have HB1D : Hid (b1 < WD.heap.size) := Nat.lt_of_lt_of_le hb1lt HDL.size
        have HT1 : Hid (WD.heap[b1]? = some (.cells #[.slice none 0 0, .int .i64 (l.length : Int), .int .i64 (dirtyT l : Int)] 52 (0, 0))) := (HDL.block b1 hb1lt).trans T1.out
        have HC0 : Hid (WD.cell? ⟨b1, 0, none⟩ = some (.slice none 0 0)) := by show _ = _; rw [cell_of_row _ _ _ _ _ _ HT1.out]; rfl
        have HRD : Hid (entK.Row WD base (some ⟨r, 0, none⟩) n c l) := by rw [← HN.out]; exact (O1.out.since HDL).row
        clear HDL hb1lt
        refine region_of_steps7 (by kernel_rfl) [some (.pointer (some ⟨b1, 0, none⟩)), some (.pointer (some ⟨b1, 0, none⟩)), some (.pointer (some ⟨b1, 0, none⟩)), some (.pointer (some ⟨b1, 0, none⟩)), some (.slice none 0 0), some (.slice (some ⟨r, 0, none⟩) n c), none, none, none, some (.pointer (some ⟨b1, 0, none⟩)), some (.pointer (some ⟨b1, 0, none⟩)), none] [6, 7, 8, 11] [33, 34, 35] (CopJ WD b1 n l) (by kernel_rfl) (by kernel_rfl) (by rw [← HWD.out]; exact CopJ.start (by rw [slots_len]; rfl)) ?_ ?_
        · refine Steps7.cons ?_ (Steps7.cons ?_ (Steps7.cons ?_ (Steps7.cons ?_ (Steps7.cons ?_ (Steps7.cons ?_ (Steps7.cons ?_ (Steps7.cons ?_ (Steps7.cons ?_ (Steps7.cons ?_ (Steps7.cons ?_ (Steps7.cons ?_ (Steps7.nil))))))))))))
          · intro listed a W H hj hl hd
            have t3 : a.tmps.getD 3 undef = .pointer (some ⟨b1, 0, none⟩) := (H.old 3 (by kernel_rfl)).trans rfl
            exact step7_value (i := 0) rfl rfl (run_op_move rfl t3) (calm7 (fun fs vs x y h hl => CopJ.later h hl) (by kernel_rfl) (by kernel_rfl) hj (later_refl _)) rfl
          · intro listed a W H hj hl hd
            have t3 : a.tmps.getD 3 undef = .pointer (some ⟨b1, 0, none⟩) := (H.old 3 (by kernel_rfl)).trans rfl
            exact step7_value (i := 1) rfl rfl (run_op_move rfl t3) (calm7 (fun fs vs x y h hl => CopJ.later h hl) (by kernel_rfl) (by kernel_rfl) hj (later_refl _)) rfl
          · intro listed a W H hj hl hd
            have t28 : a.tmps.getD 28 undef = .pointer (some ⟨b1, 0, none⟩) := H.get 1 28 (by kernel_rfl) (dep_of hd 1 (by kernel_rfl)) (fun _ h => by cases h)
            exact step7_value (i := 2) rfl rfl (run_op_nilCheck rfl t28) (calm7 (fun fs vs x y h hl => CopJ.later h hl) (by kernel_rfl) (by kernel_rfl) hj (later_refl _)) rfl
          · intro listed a W H hj hl hd
            have t29 : a.tmps.getD 29 undef = .pointer (some ⟨b1, 0, none⟩) := H.get 2 29 (by kernel_rfl) (dep_of hd 2 (by kernel_rfl)) (fun _ h => by cases h)
            exact step7_value (i := 3) rfl rfl (run_op_fieldAddr rfl t29 (run_field_t0 b1 W)) (calm7 (fun fs vs x y h hl => CopJ.later h hl) (by kernel_rfl) (by kernel_rfl) hj (later_refl _)) rfl
          · intro listed a W H hj hl hd
            have t30 : a.tmps.getD 30 undef = .pointer (some ⟨b1, 0, none⟩) := H.get 3 30 (by kernel_rfl) (dep_of hd 3 (by kernel_rfl)) (fun _ h => by cases h)
            exact step7_value (i := 4) rfl rfl (run_op_load rfl t30 (run_load_rows b1 _ W ((((hj.below (H.notyets 4 hl (by kernel_rfl) : (flags [6, 7, 8, 11] listed).getD 3 false = false))).cell (p := ⟨b1, 0, none⟩) HB1D.out).trans HC0.out))) (calm7 (fun fs vs x y h hl => CopJ.later h hl) (by kernel_rfl) (by kernel_rfl) hj (later_refl _)) rfl
          · intro listed a W H hj hl hd
            have t5 : a.tmps.getD 5 undef = .slice (some ⟨r, 0, none⟩) n c := (H.old 5 (by kernel_rfl)).trans rfl
            exact step7_value (i := 5) rfl rfl (run_op_move rfl t5) (calm7 (fun fs vs x y h hl => CopJ.later h hl) (by kernel_rfl) (by kernel_rfl) hj (later_refl _)) rfl
          · intro listed a W H hj hl hd
            have t32 : a.tmps.getD 32 undef = .slice (some ⟨r, 0, none⟩) n c := H.get 5 32 (by kernel_rfl) (dep_of hd 5 (by kernel_rfl)) (fun _ h => by cases h)
            refine step7_call (i := 6) rfl rfl (run_op_call (vs := #[.slice (some ⟨r, 0, none⟩) n c]) Try.func31 (by kernel_rfl) (by kernel_rfl) rfl (by simp only [List.map_toArray, List.map_cons, List.map_nil]; show #[a.tmps.getD 32 undef] = _; rw [t32])) ?_
            have f0 : (flags [6, 7, 8, 11] listed).getD 0 false = false := hl
            have f1 : (flags [6, 7, 8, 11] listed).getD 1 false = false := (H.notyets 4 hl (by kernel_rfl) : (flags [6, 7, 8, 11] listed).getD 1 false = false)
            have f2 : (flags [6, 7, 8, 11] listed).getD 2 false = false := (H.notyets 4 hl (by kernel_rfl) : (flags [6, 7, 8, 11] listed).getD 2 false = false)
            have f3 : (flags [6, 7, 8, 11] listed).getD 3 false = false := (H.notyets 4 hl (by kernel_rfl) : (flags [6, 7, 8, 11] listed).getD 3 false = false)
            have HB := hj.below f3
            refine (cloneE_any ⟨r, 0, none⟩ n c l W HN8.out (HRD.out.since HB).lie).mono ?_
            rintro e W9 ⟨A9, c9, rfl, hR9, hB9⟩
            have hk9 := hj.call f1 f2 f3 ⟨A9, c9, rfl, hR9.out.elder HB.size⟩ (below_chain HB hB9.out)
            rw [← flags_put (m := 6) 0 rfl (by decide), ← slots_at (a := a) (d := 33) 0 rfl (by decide) (by rw [H.size]; exact of_decide_eq_true (by kernel_rfl))] at hk9
            exact ⟨_, rfl, hk9, trivial⟩
          · intro listed a W H hj hl hd
            have d33 : listed.getD 6 false = true := dep_of hd 6 (by kernel_rfl)
            have f0 : (flags [6, 7, 8, 11] listed).getD 0 false = true := done_true (dep_of hd 6 (by kernel_rfl))
            have f1 : (flags [6, 7, 8, 11] listed).getD 1 false = false := hl
            have f2 : (flags [6, 7, 8, 11] listed).getD 2 false = false := (H.notyets 4 hl (by kernel_rfl) : (flags [6, 7, 8, 11] listed).getD 2 false = false)
            have f3 : (flags [6, 7, 8, 11] listed).getD 3 false = false := (H.notyets 4 hl (by kernel_rfl) : (flags [6, 7, 8, 11] listed).getD 3 false = false)
            obtain ⟨A9, c9, e9, hk9⟩ := hj.build f0 f1 f2 f3
            rw [← flags_put (m := 7) 1 rfl (by decide), ← slots_at (a := a) (d := 34) 1 rfl (by decide) (by rw [H.size]; exact of_decide_eq_true (by kernel_rfl))] at hk9
            have e9b : a.tmps.getD 33 undef = .slice A9 n c9 := e9
            exact step7_value (i := 7) rfl rfl (run_op_build rfl (by simp only [List.map_toArray, List.map_cons, List.map_nil]; show (Instr.buildSlice 50 1 #[(0, a.tmps.getD 33 undef)]).run _ _ = _; rw [e9b]; exact run_build_rows A9 n c9 W)) hk9 trivial
          · intro listed a W H hj hl hd
            have t31 : a.tmps.getD 31 undef = .slice none 0 0 := H.get 4 31 (by kernel_rfl) (dep_of hd 4 (by kernel_rfl)) (fun _ h => by cases h)
            have d34 : listed.getD 7 false = true := dep_of hd 7 (by kernel_rfl)
            have f1 : (flags [6, 7, 8, 11] listed).getD 1 false = true := done_true (dep_of hd 7 (by kernel_rfl))
            have f2 : (flags [6, 7, 8, 11] listed).getD 2 false = false := hl
            have f3 : (flags [6, 7, 8, 11] listed).getD 3 false = false := (H.notyets 4 hl (by kernel_rfl) : (flags [6, 7, 8, 11] listed).getD 3 false = false)
            obtain ⟨A9, c9, W9, hr, hk9⟩ := hj.append f1 f2 f3
            rw [← flags_put (m := 8) 2 rfl (by decide), ← slots_at (a := a) (d := 35) 2 rfl (by decide) (by rw [H.size]; exact of_decide_eq_true (by kernel_rfl))] at hk9
            exact step7_value (i := 8) rfl rfl (run_op_append rfl t31 rfl hr) hk9 trivial
          · intro listed a W H hj hl hd
            have t27 : a.tmps.getD 27 undef = .pointer (some ⟨b1, 0, none⟩) := H.get 0 27 (by kernel_rfl) (dep_of hd 0 (by kernel_rfl)) (fun _ h => by cases h)
            exact step7_value (i := 9) rfl rfl (run_op_nilCheck rfl t27) (calm7 (fun fs vs x y h hl => CopJ.later h hl) (by kernel_rfl) (by kernel_rfl) hj (later_refl _)) rfl
          · intro listed a W H hj hl hd
            have t36 : a.tmps.getD 36 undef = .pointer (some ⟨b1, 0, none⟩) := H.get 9 36 (by kernel_rfl) (dep_of hd 9 (by kernel_rfl)) (fun _ h => by cases h)
            exact step7_value (i := 10) rfl rfl (run_op_fieldAddr rfl t36 (run_field_t0 b1 W)) (calm7 (fun fs vs x y h hl => CopJ.later h hl) (by kernel_rfl) (by kernel_rfl) hj (later_refl _)) rfl
          · intro listed a W H hj hl hd
            have t37 : a.tmps.getD 37 undef = .pointer (some ⟨b1, 0, none⟩) := H.get 10 37 (by kernel_rfl) (dep_of hd 10 (by kernel_rfl)) (fun _ h => by cases h)
            have d35 : listed.getD 8 false = true := dep_of hd 8 (by kernel_rfl)
            have f2 : (flags [6, 7, 8, 11] listed).getD 2 false = true := done_true (dep_of hd 8 (by kernel_rfl))
            have f3 : (flags [6, 7, 8, 11] listed).getD 3 false = false := hl
            have HB := hj.below f3
            obtain ⟨A9, c9, e9, hk9⟩ := hj.store f2 f3
            rw [← flags_put (m := 11) 3 rfl (by decide)] at hk9
            have e9b : a.tmps.getD 35 undef = .slice A9 1 c9 := e9
            have hcg : W.cell? ⟨b1, 0, none⟩ = some (.slice none 0 0) := (HB.cell (p := ⟨b1, 0, none⟩) HB1D.out).trans HC0.out
            have hfg : W.frozen? ⟨b1, 0, none⟩ = false := by have := (HB.block b1 HB1D.out).trans HT1.out; simp [World.frozen?, this]
            exact step7_done (i := 11) rfl rfl rfl (run_op_store rfl t37 e9b (run_store_rows b1 _ A9 1 c9 W hcg hfg)) hk9 trivial
        · intro a WC hdef hsz hw hall hact
          obtain ⟨u, hu⟩ : ∃ u : Nat → Value, ∀ k, a.tmps.getD k undef = u k := ⟨_, fun _ => rfl⟩
          simp only [hu] at hact
          have hact' : a = ([27, 28, 29, 30, 31, 32, 33, 34, 35, 36, 37] : List Nat).foldl (fun b k => b.put (some k) (u k)) _ := hact
          simp only [List.foldl] at hact'
          simp only [Act.put, List.setIfInBounds_toArray, List.set_cons_succ, List.set_cons_zero] at hact'
          have HAC := Lib.hid hact'
          have HX := Lib.hid hw
          clear hact hact' hall hdef hsz hw
          rw [HAC.out]
          obtain ⟨fq, hT9, hS9⟩ := cop_new (w := w) HTW.out SD.out HBW.out HT1.out HN.out (by rw [← HN.out]; exact H0.out) (HX.out.put rfl)
          have T9 := Lib.hid hT9
          have S9 := Lib.hid hS9
          clear hT9 hS9 HX hu HAC SD HB1D HT1 HC0 HRD HWD
          go_wp2_with fail
          go_roundw
          case rel => exact Or.inr ⟨rfl, fq, T9, S9⟩
          case measure => simp [intOf]
      · go_wp2_with fail
        go_ret
        exact ⟨b1, fq, rfl, HA.out, HB.out⟩
end
end Go.Proofs.Ythamnmadgfmbkaa
