/- The landed table: remove. Conditions: the table's cells. -/
import Derived.Test.YthamnmadgfmbkaaTabPut2
import Derived.Test.YthamnmadgfmbkaaJTurn
set_option linter.unusedVariables false
set_option linter.unusedSimpArgs false
namespace Go.Proofs.Ythamnmadgfmbkaa
open Go.RowKit

theorem run_store_rows (g : Nat) (v : Value) (A' : Option Addr) (n' c' : Nat) (w : World) (hc : w.cell? ⟨g, 0, none⟩ = some v) (hf : w.frozen? ⟨g, 0, none⟩ = false) : (Instr.storeAt 50 (.pointer (some ⟨g, 0, none⟩)) (.slice A' n' c')).run Try.prog w = .ok () (w.setCell ⟨g, 0, none⟩ (.slice A' n' c')) := by go_simp
/-- The row behind Delete. -/
def RemR (WD : World) (base r q c : Nat) (L : List E) (W : World) : Prop := entK.Row W base (some ⟨r, 0, none⟩) q c L ∧ Turn (fun b => b = r) WD W
def RemH (WD : World) (base h cA : Nat) (W : World) : Prop := esK.Row W base (some ⟨h, 0, none⟩) 0 cA [] ∧ Turn (fun b => b = h) WD W
def RemZ (WD : World) (base g h cA : Nat) (W : World) : Prop := ∃ W1, RemH WD base h cA W1 ∧ Below (W1.setCell ⟨g, 0, none⟩ (.slice (some ⟨h, 0, none⟩) 0 cA)).heap.size (W1.setCell ⟨g, 0, none⟩ (.slice (some ⟨h, 0, none⟩) 0 cA)) W
theorem RemR.later {WD W W' : World} {base r q c : Nat} {L : List E} (h : RemR WD base r q c L W) (hl : Later W W') : RemR WD base r q c L W' := ⟨h.1.since hl, h.2.trans (Turn.of_below (fp := fun b => b = r) hl) fun b hb => Or.inl hb⟩
theorem RemH.later {WD W W' : World} {base h cA : Nat} (k : RemH WD base h cA W) (hl : Later W W') : RemH WD base h cA W' := ⟨k.1.since hl, k.2.trans (Turn.of_below (fp := fun b => b = h) hl) fun b hb => Or.inl hb⟩
theorem RemZ.later {WD W W' : World} {base g h cA : Nat} (k : RemZ WD base g h cA W) (hl : Later W W') : RemZ WD base g h cA W' := by
  obtain ⟨W1, h1, h2⟩ := k
  exact ⟨W1, h1, below_chain h2 hl⟩
section
variable {w : World} {base g h cA r c n k : Nat} {l L : List E} {fp : Nat → Prop} {v : Value} {m d : Int}
set_option maxHeartbeats 16000000 in
set_option maxRecDepth 20000 in
theorem tremove_any (hl : l.length ≤ 120) (hk : k < l.length) (K : TCore w base fp g l (.slice (some ⟨h, 0, none⟩) 1 cA) m d) (ho : TOne w base fp l h cA r c) :
    Calls Try.prog 30 #[.pointer (some ⟨g, 0, none⟩), .agg #[.int .i64 0, .int .i64 (k : Int)]] w (TTurns w base fp g (l.take k ++ l.drop (k + 1)) m d) := by
  have HK := Lib.hid K
  obtain ⟨W2, HW2⟩ : ∃ W2, Hid (W2 = w.alloc (.cells #[.int .i64 0, .int .i64 (k : Int)] 54)) := ⟨_, rfl⟩
  have hb2 : Below w.heap.size w W2 := by rw [HW2.out]; exact (Below.refl _ _).alloc (Nat.le_refl _) _
  have P2 : Hid (RowPl W2 w.heap.size 0 k) := by rw [HW2.out]; exact rowPl_new w 0 k
  have S2 := Lib.hid hb2
  have K2 := Lib.hid (K.since S2.out)
  have O2 := Lib.hid (ho.since S2.out)
  obtain ⟨b1, HB1⟩ : ∃ b1, Hid (w.heap.size = b1) := ⟨_, rfl⟩
  rw [HB1.out] at P2
  have HBZ : Hid (b1 = w.heap.size) := HB1.out.symm
  obtain ⟨n, HN⟩ : ∃ n, Hid (l.length = n) := ⟨_, rfl⟩
  have HN8 : Hid (n ≤ 8000) := by rw [← HN.out]; exact Nat.le_trans hl (by decide)
  have HKN : Hid (k < n) := by rw [← HN.out]; exact hk
  obtain ⟨j, HJ⟩ : ∃ j, Hid (k + 1 = j) := ⟨_, rfl⟩
  have HJK : Hid (j = k + 1) := HJ.out.symm
  have HKJ : Hid ((k : Int) + 1 = (j : Int)) := by show _ = _; rw [← HJ.out]; omega
  have HJA : Hid (-9223372036854775808 ≤ (j : Int)) := by show _ ≤ _; omega
  have HJB : Hid ((j : Int) ≤ 9223372036854775807) := by show _ ≤ _; have := HJ.out; have := HKN.out; have := HN8.out; omega
  obtain ⟨q, HQ⟩ : ∃ q, Hid (n - 1 = q) := ⟨_, rfl⟩
  clear K ho hb2 hl hk
  rw [HJ.out]
  go_enter Try.func30, Try.ntmps30
  go_wp2_with fail
  rw [HB1.out, ← HW2.out]
  clear HW2 HB1
  obtain ⟨WD, HWD⟩ : ∃ W, Hid (W = W2.drew) := ⟨_, rfl⟩
  have HDL : Hid (Below W2.heap.size W2 WD) := by rw [HWD.out]; exact (Below.refl _ _).drew
  have HKD := Lib.hid (K2.out.since HDL.out)
  have HPD := Lib.hid (P2.out.since HDL.out)
  have HOD := Lib.hid (O2.out.since HDL.out)
  have SD := Lib.hid (below_chain S2.out HDL.out)
  have HRD : Hid (entK.Row WD base (some ⟨r, 0, none⟩) n c l) := by rw [← HN.out]; exact HOD.out.row
  clear K2 P2 O2 S2 HDL
  have H1L : ∀ W W', RemR WD base r q c (l.take k ++ l.drop j) W → Later W W' → RemR WD base r q c (l.take k ++ l.drop j) W' := fun W W' a b => a.later b
  refine region_of_steps7 (by kernel_rfl) [some (.pointer (some ⟨g, 0, none⟩)), some (.pointer (some ⟨g, 0, none⟩)), some (.pointer (some ⟨g, 0, none⟩)), some (.slice (some ⟨h, 0, none⟩) 1 cA), some (.pointer (some ⟨b1, 0, none⟩)), some (.int .i64 0), some (.pointer (some ⟨h, 0, none⟩)), some (.slice (some ⟨r, 0, none⟩) n c), some (.pointer (some ⟨b1, 1, none⟩)), some (.int .i64 (k : Int)), some (.pointer (some ⟨b1, 1, none⟩)), some (.int .i64 (k : Int)), some (.int .i64 (j : Int)), some (.slice (some ⟨r, 0, none⟩) q c), some (.slice (some ⟨r, 0, none⟩) q c)] [13] [] (JT WD (RemR WD base r q c (l.take k ++ l.drop j)) (fun _ => False)) (by kernel_rfl) (by kernel_rfl) (by rw [← HWD.out]; exact JT.start1) ?_ ?_
  · refine Steps7.cons ?_ (Steps7.cons ?_ (Steps7.cons ?_ (Steps7.cons ?_ (Steps7.cons ?_ (Steps7.cons ?_ (Steps7.cons ?_ (Steps7.cons ?_ (Steps7.cons ?_ (Steps7.cons ?_ (Steps7.cons ?_ (Steps7.cons ?_ (Steps7.cons ?_ (Steps7.cons ?_ (Steps7.cons ?_ (Steps7.nil)))))))))))))))
    · intro listed a W H hj hl hd
      have t0 : a.tmps.getD 0 undef = .pointer (some ⟨g, 0, none⟩) := (H.old 0 (by kernel_rfl)).trans rfl
      exact step7_value (i := 0) rfl rfl (run_op_move rfl t0) (calm7 (fun fs vs x y h hl => JT.later H1L (fun _ _ e _ => e) h hl) (by kernel_rfl) (by kernel_rfl) hj (later_refl _)) rfl
    · intro listed a W H hj hl hd
      have t5 : a.tmps.getD 5 undef = .pointer (some ⟨g, 0, none⟩) := H.get 0 5 (by kernel_rfl) (dep_of hd 0 (by kernel_rfl)) (fun _ h => by cases h)
      exact step7_value (i := 1) rfl rfl (run_op_nilCheck rfl t5) (calm7 (fun fs vs x y h hl => JT.later H1L (fun _ _ e _ => e) h hl) (by kernel_rfl) (by kernel_rfl) hj (later_refl _)) rfl
    · intro listed a W H hj hl hd
      have t6 : a.tmps.getD 6 undef = .pointer (some ⟨g, 0, none⟩) := H.get 1 6 (by kernel_rfl) (dep_of hd 1 (by kernel_rfl)) (fun _ h => by cases h)
      exact step7_value (i := 2) rfl rfl (run_op_fieldAddr rfl t6 (run_field_t0 g W)) (calm7 (fun fs vs x y h hl => JT.later H1L (fun _ _ e _ => e) h hl) (by kernel_rfl) (by kernel_rfl) hj (later_refl _)) rfl
    · intro listed a W H hj hl hd
      have t7 : a.tmps.getD 7 undef = .pointer (some ⟨g, 0, none⟩) := H.get 2 7 (by kernel_rfl) (dep_of hd 2 (by kernel_rfl)) (fun _ h => by cases h)
      exact step7_value (i := 3) rfl rfl (run_op_load rfl t7 (run_load_rows g _ W (HKD.out.since (hj.below (H.notyets 4 hl (by kernel_rfl) : (flags [13] listed).getD 0 false = false))).c0)) (calm7 (fun fs vs x y h hl => JT.later H1L (fun _ _ e _ => e) h hl) (by kernel_rfl) (by kernel_rfl) hj (later_refl _)) rfl
    · intro listed a W H hj hl hd
      have t3 : a.tmps.getD 3 undef = .pointer (some ⟨b1, 0, none⟩) := (H.old 3 (by kernel_rfl)).trans rfl
      exact step7_value (i := 4) rfl rfl (run_op_fieldAddr rfl t3 (run_field_p0 b1 W)) (calm7 (fun fs vs x y h hl => JT.later H1L (fun _ _ e _ => e) h hl) (by kernel_rfl) (by kernel_rfl) hj (later_refl _)) rfl
    · intro listed a W H hj hl hd
      have t9 : a.tmps.getD 9 undef = .pointer (some ⟨b1, 0, none⟩) := H.get 4 9 (by kernel_rfl) (dep_of hd 4 (by kernel_rfl)) (fun _ h => by cases h)
      exact step7_value (i := 5) rfl rfl (run_op_load rfl t9 (run_load_int b1 0 _ W (HPD.out.since (hj.below (H.notyets 4 hl (by kernel_rfl) : (flags [13] listed).getD 0 false = false))).c0)) (calm7 (fun fs vs x y h hl => JT.later H1L (fun _ _ e _ => e) h hl) (by kernel_rfl) (by kernel_rfl) hj (later_refl _)) rfl
    · intro listed a W H hj hl hd
      have t8 : a.tmps.getD 8 undef = .slice (some ⟨h, 0, none⟩) 1 cA := H.get 3 8 (by kernel_rfl) (dep_of hd 3 (by kernel_rfl)) (fun _ h => by cases h)
      have t10 : a.tmps.getD 10 undef = .int .i64 0 := H.get 5 10 (by kernel_rfl) (dep_of hd 5 (by kernel_rfl)) (fun _ h => by cases h)
      exact step7_value (i := 6) rfl rfl (run_op_index rfl t8 t10 (run_index_rows h cA W)) (calm7 (fun fs vs x y h hl => JT.later H1L (fun _ _ e _ => e) h hl) (by kernel_rfl) (by kernel_rfl) hj (later_refl _)) rfl
    · intro listed a W H hj hl hd
      have t11 : a.tmps.getD 11 undef = .pointer (some ⟨h, 0, none⟩) := H.get 6 11 (by kernel_rfl) (dep_of hd 6 (by kernel_rfl)) (fun _ h => by cases h)
      exact step7_value (i := 7) rfl rfl (run_op_load rfl t11 (run_load_ents h n c (some ⟨r, 0, none⟩) W (HN.out ▸ (HOD.out.since (hj.below (H.notyets 4 hl (by kernel_rfl) : (flags [13] listed).getD 0 false = false))).c0))) (calm7 (fun fs vs x y h hl => JT.later H1L (fun _ _ e _ => e) h hl) (by kernel_rfl) (by kernel_rfl) hj (later_refl _)) rfl
    · intro listed a W H hj hl hd
      have t3 : a.tmps.getD 3 undef = .pointer (some ⟨b1, 0, none⟩) := (H.old 3 (by kernel_rfl)).trans rfl
      exact step7_value (i := 8) rfl rfl (run_op_fieldAddr rfl t3 (run_field_p1 b1 W)) (calm7 (fun fs vs x y h hl => JT.later H1L (fun _ _ e _ => e) h hl) (by kernel_rfl) (by kernel_rfl) hj (later_refl _)) rfl
    · intro listed a W H hj hl hd
      have t13 : a.tmps.getD 13 undef = .pointer (some ⟨b1, 1, none⟩) := H.get 8 13 (by kernel_rfl) (dep_of hd 8 (by kernel_rfl)) (fun _ h => by cases h)
      exact step7_value (i := 9) rfl rfl (run_op_load rfl t13 (run_load_int b1 1 _ W (HPD.out.since (hj.below (H.notyets 4 hl (by kernel_rfl) : (flags [13] listed).getD 0 false = false))).c1)) (calm7 (fun fs vs x y h hl => JT.later H1L (fun _ _ e _ => e) h hl) (by kernel_rfl) (by kernel_rfl) hj (later_refl _)) rfl
    · intro listed a W H hj hl hd
      have t3 : a.tmps.getD 3 undef = .pointer (some ⟨b1, 0, none⟩) := (H.old 3 (by kernel_rfl)).trans rfl
      exact step7_value (i := 10) rfl rfl (run_op_fieldAddr rfl t3 (run_field_p1 b1 W)) (calm7 (fun fs vs x y h hl => JT.later H1L (fun _ _ e _ => e) h hl) (by kernel_rfl) (by kernel_rfl) hj (later_refl _)) rfl
    · intro listed a W H hj hl hd
      have t15 : a.tmps.getD 15 undef = .pointer (some ⟨b1, 1, none⟩) := H.get 10 15 (by kernel_rfl) (dep_of hd 10 (by kernel_rfl)) (fun _ h => by cases h)
      exact step7_value (i := 11) rfl rfl (run_op_load rfl t15 (run_load_int b1 1 _ W (HPD.out.since (hj.below (H.notyets 4 hl (by kernel_rfl) : (flags [13] listed).getD 0 false = false))).c1)) (calm7 (fun fs vs x y h hl => JT.later H1L (fun _ _ e _ => e) h hl) (by kernel_rfl) (by kernel_rfl) hj (later_refl _)) rfl
    · intro listed a W H hj hl hd
      have t16 : a.tmps.getD 16 undef = .int .i64 (k : Int) := H.get 11 16 (by kernel_rfl) (dep_of hd 11 (by kernel_rfl)) (fun _ h => by cases h)
      exact step7_value (i := 12) rfl rfl (run_op_bin rfl t16 rfl (bin_add _ _ _ (k : Int) 1 (j : Int) HKJ.out HJA.out HJB.out)) (calm7 (fun fs vs x y h hl => JT.later H1L (fun _ _ e _ => e) h hl) (by kernel_rfl) (by kernel_rfl) hj (later_refl _)) rfl
    · intro listed a W H hj hl hd
      have t12 : a.tmps.getD 12 undef = .slice (some ⟨r, 0, none⟩) n c := H.get 7 12 (by kernel_rfl) (dep_of hd 7 (by kernel_rfl)) (fun _ h => by cases h)
      have t14 : a.tmps.getD 14 undef = .int .i64 (k : Int) := H.get 9 14 (by kernel_rfl) (dep_of hd 9 (by kernel_rfl)) (fun _ h => by cases h)
      have t17 : a.tmps.getD 17 undef = .int .i64 (j : Int) := H.get 12 17 (by kernel_rfl) (dep_of hd 12 (by kernel_rfl)) (fun _ h => by cases h)
      refine step7_call (i := 13) rfl rfl (run_op_call (vs := #[.slice (some ⟨r, 0, none⟩) n c, .int .i64 (k : Int), .int .i64 (j : Int)]) Try.func39 (by kernel_rfl) (by kernel_rfl) rfl (by simp only [List.map_toArray, List.map_cons, List.map_nil]; show #[a.tmps.getD 12 undef, a.tmps.getD 14 undef, a.tmps.getD 17 undef] = _; rw [t12, t14, t17])) ?_
      have f0 : (flags [13] listed).getD 0 false = false := hl
      have HB := hj.below f0
      refine (delE_any r n c k j base l W HKN.out HJK.out HN8.out (HRD.out.since HB)).mono ?_
      rintro e W9 ⟨rfl, hR9, hT9⟩
      rw [HQ.out] at hR9 ⊢
      have hk9 := JT.first (WD := WD) (Q2 := fun _ => False) (fs := flags [13] listed) (vs := slots [] a) Nat.zero_lt_one rfl (show RemR WD base r q c (l.take k ++ l.drop j) W9 from ⟨hR9, (Turn.of_below HB).trans hT9 fun b hb => Or.inl hb⟩)
      rw [← flags_put (m := 13) 0 rfl (by decide)] at hk9
      exact ⟨_, rfl, hk9, rfl⟩
    · intro listed a W H hj hl hd
      have t18 : a.tmps.getD 18 undef = .slice (some ⟨r, 0, none⟩) q c := H.get 13 18 (by kernel_rfl) (dep_of hd 13 (by kernel_rfl)) (fun _ h => by cases h)
      exact step7_value (i := 14) rfl rfl (run_op_assign rfl t18) (calm7 (fun fs vs x y h hl => JT.later H1L (fun _ _ e _ => e) h hl) (by kernel_rfl) (by kernel_rfl) hj (later_refl _)) rfl
  · intro a WC hdef hsz hw hall hact
    obtain ⟨u, hu⟩ : ∃ u : Nat → Value, ∀ k, a.tmps.getD k undef = u k := ⟨_, fun _ => rfl⟩
    have h18 : u 18 = .slice (some ⟨r, 0, none⟩) q c := by rw [← hu]; exact hall 13 _ rfl
    have h4 : u 4 = .slice (some ⟨r, 0, none⟩) q c := by rw [← hu]; exact hall 14 _ rfl
    simp only [hu] at hact
    have hact' : a = ([5, 6, 7, 8, 9, 10, 11, 12, 13, 14, 15, 16, 17, 18, 4] : List Nat).foldl (fun b k => b.put (some k) (u k)) _ := hact
    simp only [List.foldl] at hact'
    simp only [Act.put, List.setIfInBounds_toArray, List.set_cons_succ, List.set_cons_zero] at hact'
    have HAC := Lib.hid hact'
    have HX := Lib.hid hw
    clear hact hact' hall hdef hsz hw
    rw [h18, h4] at HAC
    rw [HAC.out]
    obtain ⟨hR5, hT5⟩ := HX.out.one rfl rfl
    have hgr : g ≠ r := fun e => by
      obtain ⟨cur, hc⟩ := Row.typed HRD.out r (by simp [blk])
      exact HKD.out.tab_other hc (by decide) e.symm
    have hhr : h ≠ r := fun e => by
      obtain ⟨cur, hc⟩ := Row.typed HRD.out r (by simp [blk])
      obtain ⟨cur2, hc2⟩ := Row.typed HOD.out.rows h (by simp [blk])
      rw [e] at hc2
      have := other_type hc2 hc
      revert this; decide
    have hhg : h ≠ g := fun e => by
      obtain ⟨cur2, hc2⟩ := Row.typed HOD.out.rows h (by simp [blk])
      exact HKD.out.tab_other hc2 (by decide) e
    have hlt : h < WD.heap.size := HKD.out.lt h HOD.out.fh
    have hgt : WC.drew.heap[g]? = some (.cells #[.slice (some ⟨h, 0, none⟩) 1 cA, .int .i64 m, .int .i64 d] 52 (0, 0)) := (hT5.block g HKD.out.glt hgr).trans HKD.out.tab
    have hht : WC.drew.heap[h]? = WD.heap[h]? := hT5.block h hlt hhr
    have hpr : b1 ≠ r := fun e => by have := HBZ.out; have := HK.out.lt r (HOD.out.fr); omega
    have hpl : RowPl WC.drew b1 0 k := ⟨(hT5.block b1 HPD.out.lt hpr).trans HPD.out.row⟩
    have c0 : WC.drew.cell? ⟨g, 0, none⟩ = some (.slice (some ⟨h, 0, none⟩) 1 cA) := by rw [cell_of_row _ _ _ _ _ _ hgt]; rfl
    have p0 := hpl.c0
    have ch : WC.drew.cell? ⟨h, 0, none⟩ = some (.slice (some ⟨r, 0, none⟩) l.length c) := (same_cell hht rfl).trans HOD.out.c0
    have fh : WC.drew.frozen? ⟨h, 0, none⟩ = false := by
      obtain ⟨cur2, hc2⟩ := Row.typed HOD.out.rows h (by simp [blk])
      simp [World.frozen?, hht.trans hc2]
    obtain ⟨L, HLL⟩ : ∃ L, Hid (l.take k ++ l.drop j = L) := ⟨_, rfl⟩
    rw [HLL.out] at hR5
    have hLn : L.length = q := hR5.len
    have hR6 : entK.Row WC.drew base (some ⟨r, 0, none⟩) L.length c L := by rw [hLn]; exact hR5.since (Below.refl _ _).drew
    have htw : Turn fp w (WC.drew.setCell ⟨h, 0, none⟩ (.slice (some ⟨r, 0, none⟩) L.length c)) := (((Turn.of_below (fp := fp) SD.out).trans hT5 fun b hb => Or.inl (by rw [hb]; exact HOD.out.fr)).trans (Turn.of_below (fp := fp) (Below.refl _ _).drew) fun b hb => Or.inl hb).trans (Turn.of_setCell (fp := fp) _ _ HOD.out.fh) fun b hb => Or.inl hb
    have hfin := HOD.out.stored (w' := WC.drew) (fq := newer fp w (WC.drew.setCell ⟨h, 0, none⟩ (.slice (some ⟨r, 0, none⟩) L.length c))) hht hR6 (Or.inl HOD.out.fh) (Or.inl HOD.out.fr)
    rw [hLn] at htw hfin
    have HG5 : Hid ((WC.drew.setCell ⟨h, 0, none⟩ (.slice (some ⟨r, 0, none⟩) q c)).heap[g]? = some (.cells #[.slice (some ⟨h, 0, none⟩) 1 cA, .int .i64 m, .int .i64 d] 52 (0, 0))) := (setCell_heap _ _ _ _ _ hhg.symm).trans hgt
    have HTW := Lib.hid htw
    have HFI := Lib.hid hfin
    have HLN := Lib.hid hLn
    have HHG := Lib.hid hhg
    have hbh : b1 ≠ h := fun e => by have := HBZ.out; have := HK.out.lt h HOD.out.fh; omega
    have HP5 : Hid (RowPl (WC.drew.setCell ⟨h, 0, none⟩ (.slice (some ⟨r, 0, none⟩) q c)) b1 0 k) := ⟨(setCell_heap _ _ _ _ _ hbh).trans hpl.row⟩
    clear hR5 hT5 hgr hhr hhg hlt hgt hht hpr hpl hR6 htw hfin hLn hbh HX hu HAC
    go_wp2_with fail
    go_region
    by_cases hq0 : q = 0
    · subst hq0
      go_wp2_with fail
      obtain ⟨W6, HW6⟩ : ∃ W, Hid (W = (WC.setCell ⟨h, 0, none⟩ (.slice (some ⟨r, 0, none⟩) 0 c)).drew) := ⟨_, rfl⟩
      rw [← HW6.out]
      have hgt6 : W6.heap[g]? = some (.cells #[.slice (some ⟨h, 0, none⟩) 1 cA, .int .i64 m, .int .i64 d] 52 (0, 0)) := by rw [HW6.out]; exact HG5.out
      have htw6 : Turn fp w W6 := by rw [HW6.out]; exact HTW.out
      have hp6 : RowPl W6 b1 0 k := by rw [HW6.out]; exact HP5.out
      have hh6 : esK.Row W6 base (some ⟨h, 0, none⟩) 1 cA [⟨some ⟨r, 0, none⟩, L.length, c⟩] := by rw [HW6.out]; exact HFI.out.rows
      obtain ⟨WE, HWE⟩ : ∃ W, Hid (W = W6.drew) := ⟨_, rfl⟩
      have hDE : Below W6.heap.size W6 WE := by rw [HWE.out]; exact (Below.refl _ _).drew
      have hg6 : g < W6.heap.size := (Array.getElem?_eq_some_iff.1 hgt6).1
      have HGT : Hid (WE.heap[g]? = some (.cells #[.slice (some ⟨h, 0, none⟩) 1 cA, .int .i64 m, .int .i64 d] 52 (0, 0))) := (hDE.block g hg6).trans hgt6
      have HGLT : Hid (g < WE.heap.size) := Nat.lt_of_lt_of_le hg6 hDE.size
      have HPE := Lib.hid (hp6.since hDE)
      have HHE := Lib.hid (hh6.since hDE)
      have HTE : Hid (Turn fp w WE) := htw6.trans (Turn.of_below (fp := fp) hDE) fun b hb => Or.inl hb
      have HGH : Hid (¬ g = h) := fun e => HHG.out e.symm
      have HFH := Lib.hid HOD.out.fh
      have G1L : ∀ W W', RemH WE base h cA W → Later W W' → RemH WE base h cA W' := fun W W' a b => a.later b
      have G2L : ∀ W W', RemZ WE base g h cA W → Later W W' → RemZ WE base g h cA W' := fun W W' a b => a.later b
      clear hgt6 htw6 hp6 hh6 hDE hg6 HW6 HG5 HTW HFI HP5 c0 p0 ch fh H1L HKD HPD HOD SD HRD
      refine region_of_steps7 (by kernel_rfl) [some (.pointer (some ⟨g, 0, none⟩)), some (.pointer (some ⟨g, 0, none⟩)), some (.pointer (some ⟨g, 0, none⟩)), some (.pointer (some ⟨g, 0, none⟩)), some (.slice (some ⟨h, 0, none⟩) 1 cA), some (.pointer (some ⟨b1, 0, none⟩)), some (.int .i64 0), some (.pointer (some ⟨b1, 0, none⟩)), some (.int .i64 0), some (.int .i64 1), some (.slice (some ⟨h, 0, none⟩) 0 cA), some (.pointer (some ⟨g, 0, none⟩)), some (.pointer (some ⟨g, 0, none⟩)), none] [10, 13] [] (JT WE (RemH WE base h cA) (RemZ WE base g h cA)) (by kernel_rfl) (by kernel_rfl) (by rw [← HWE.out]; exact JT.start2) ?_ ?_
      · refine Steps7.cons ?_ (Steps7.cons ?_ (Steps7.cons ?_ (Steps7.cons ?_ (Steps7.cons ?_ (Steps7.cons ?_ (Steps7.cons ?_ (Steps7.cons ?_ (Steps7.cons ?_ (Steps7.cons ?_ (Steps7.cons ?_ (Steps7.cons ?_ (Steps7.cons ?_ (Steps7.cons ?_ (Steps7.nil))))))))))))))
        · intro listed a W H hj hl hd
          have t0 : a.tmps.getD 0 undef = .pointer (some ⟨g, 0, none⟩) := (H.old 0 (by kernel_rfl)).trans rfl
          exact step7_value (i := 0) rfl rfl (run_op_move rfl t0) (calm7 (fun fs vs x y h hl => JT.later G1L G2L h hl) (by kernel_rfl) (by kernel_rfl) hj (later_refl _)) rfl
        · intro listed a W H hj hl hd
          have t0 : a.tmps.getD 0 undef = .pointer (some ⟨g, 0, none⟩) := (H.old 0 (by kernel_rfl)).trans rfl
          exact step7_value (i := 1) rfl rfl (run_op_move rfl t0) (calm7 (fun fs vs x y h hl => JT.later G1L G2L h hl) (by kernel_rfl) (by kernel_rfl) hj (later_refl _)) rfl
        · intro listed a W H hj hl hd
          have t31 : a.tmps.getD 31 undef = .pointer (some ⟨g, 0, none⟩) := H.get 1 31 (by kernel_rfl) (dep_of hd 1 (by kernel_rfl)) (fun _ h => by cases h)
          exact step7_value (i := 2) rfl rfl (run_op_nilCheck rfl t31) (calm7 (fun fs vs x y h hl => JT.later G1L G2L h hl) (by kernel_rfl) (by kernel_rfl) hj (later_refl _)) rfl
        · intro listed a W H hj hl hd
          have t32 : a.tmps.getD 32 undef = .pointer (some ⟨g, 0, none⟩) := H.get 2 32 (by kernel_rfl) (dep_of hd 2 (by kernel_rfl)) (fun _ h => by cases h)
          exact step7_value (i := 3) rfl rfl (run_op_fieldAddr rfl t32 (run_field_t0 g W)) (calm7 (fun fs vs x y h hl => JT.later G1L G2L h hl) (by kernel_rfl) (by kernel_rfl) hj (later_refl _)) rfl
        · intro listed a W H hj hl hd
          have t33 : a.tmps.getD 33 undef = .pointer (some ⟨g, 0, none⟩) := H.get 3 33 (by kernel_rfl) (dep_of hd 3 (by kernel_rfl)) (fun _ h => by cases h)
          exact step7_value (i := 4) rfl rfl (run_op_load rfl t33 (run_load_rows g _ W (by rw [cell_of_row _ _ _ _ _ _ (((hj.below (H.notyets 4 hl (by kernel_rfl) : (flags [10, 13] listed).getD 0 false = false)).block g HGLT.out).trans HGT.out)]; rfl))) (calm7 (fun fs vs x y h hl => JT.later G1L G2L h hl) (by kernel_rfl) (by kernel_rfl) hj (later_refl _)) rfl
        · intro listed a W H hj hl hd
          have t3 : a.tmps.getD 3 undef = .pointer (some ⟨b1, 0, none⟩) := (H.old 3 (by kernel_rfl)).trans rfl
          exact step7_value (i := 5) rfl rfl (run_op_fieldAddr rfl t3 (run_field_p0 b1 W)) (calm7 (fun fs vs x y h hl => JT.later G1L G2L h hl) (by kernel_rfl) (by kernel_rfl) hj (later_refl _)) rfl
        · intro listed a W H hj hl hd
          have t35 : a.tmps.getD 35 undef = .pointer (some ⟨b1, 0, none⟩) := H.get 5 35 (by kernel_rfl) (dep_of hd 5 (by kernel_rfl)) (fun _ h => by cases h)
          exact step7_value (i := 6) rfl rfl (run_op_load rfl t35 (run_load_int b1 0 _ W (HPE.out.since (hj.below (H.notyets 4 hl (by kernel_rfl) : (flags [10, 13] listed).getD 0 false = false))).c0)) (calm7 (fun fs vs x y h hl => JT.later G1L G2L h hl) (by kernel_rfl) (by kernel_rfl) hj (later_refl _)) rfl
        · intro listed a W H hj hl hd
          have t3 : a.tmps.getD 3 undef = .pointer (some ⟨b1, 0, none⟩) := (H.old 3 (by kernel_rfl)).trans rfl
          exact step7_value (i := 7) rfl rfl (run_op_fieldAddr rfl t3 (run_field_p0 b1 W)) (calm7 (fun fs vs x y h hl => JT.later G1L G2L h hl) (by kernel_rfl) (by kernel_rfl) hj (later_refl _)) rfl
        · intro listed a W H hj hl hd
          have t37 : a.tmps.getD 37 undef = .pointer (some ⟨b1, 0, none⟩) := H.get 7 37 (by kernel_rfl) (dep_of hd 7 (by kernel_rfl)) (fun _ h => by cases h)
          exact step7_value (i := 8) rfl rfl (run_op_load rfl t37 (run_load_int b1 0 _ W (HPE.out.since (hj.below (H.notyets 4 hl (by kernel_rfl) : (flags [10, 13] listed).getD 0 false = false))).c0)) (calm7 (fun fs vs x y h hl => JT.later G1L G2L h hl) (by kernel_rfl) (by kernel_rfl) hj (later_refl _)) rfl
        · intro listed a W H hj hl hd
          have t38 : a.tmps.getD 38 undef = .int .i64 0 := H.get 8 38 (by kernel_rfl) (dep_of hd 8 (by kernel_rfl)) (fun _ h => by cases h)
          exact step7_value (i := 9) rfl rfl (run_op_bin rfl t38 rfl (bin_add _ _ _ 0 1 1 (by decide) (by decide) (by decide))) (calm7 (fun fs vs x y h hl => JT.later G1L G2L h hl) (by kernel_rfl) (by kernel_rfl) hj (later_refl _)) rfl
        · intro listed a W H hj hl hd
          have t34 : a.tmps.getD 34 undef = .slice (some ⟨h, 0, none⟩) 1 cA := H.get 4 34 (by kernel_rfl) (dep_of hd 4 (by kernel_rfl)) (fun _ h => by cases h)
          have t36 : a.tmps.getD 36 undef = .int .i64 0 := H.get 6 36 (by kernel_rfl) (dep_of hd 6 (by kernel_rfl)) (fun _ h => by cases h)
          have t39 : a.tmps.getD 39 undef = .int .i64 1 := H.get 9 39 (by kernel_rfl) (dep_of hd 9 (by kernel_rfl)) (fun _ h => by cases h)
          refine step7_call (i := 10) rfl rfl (run_op_call (vs := #[.slice (some ⟨h, 0, none⟩) 1 cA, .int .i64 0, .int .i64 1]) Try.func40 (by kernel_rfl) (by kernel_rfl) rfl (by simp only [List.map_toArray, List.map_cons, List.map_nil]; show #[a.tmps.getD 34 undef, a.tmps.getD 36 undef, a.tmps.getD 39 undef] = _; rw [t34, t36, t39])) ?_
          have f0 : (flags [10, 13] listed).getD 0 false = false := hl
          have f1 : (flags [10, 13] listed).getD 1 false = false := (H.notyets 4 hl (by kernel_rfl) : (flags [10, 13] listed).getD 1 false = false)
          have HB := hj.below f0
          refine (delR_any h 1 cA 0 1 base _ W (by decide) rfl (by decide) (HHE.out.since HB)).mono ?_
          rintro e W9 ⟨rfl, hR9, hT9⟩
          have hk9 := JT.first (WD := WE) (Q2 := RemZ WE base g h cA) (fs := flags [10, 13] listed) (vs := slots [] a) (Nat.zero_lt_succ 1) f1 (show RemH WE base h cA W9 from ⟨hR9, (Turn.of_below HB).trans hT9 fun b hb => Or.inl hb⟩)
          rw [← flags_put (m := 10) 0 rfl (by decide)] at hk9
          exact ⟨_, rfl, hk9, rfl⟩
        · intro listed a W H hj hl hd
          have t30 : a.tmps.getD 30 undef = .pointer (some ⟨g, 0, none⟩) := H.get 0 30 (by kernel_rfl) (dep_of hd 0 (by kernel_rfl)) (fun _ h => by cases h)
          exact step7_value (i := 11) rfl rfl (run_op_nilCheck rfl t30) (calm7 (fun fs vs x y h hl => JT.later G1L G2L h hl) (by kernel_rfl) (by kernel_rfl) hj (later_refl _)) rfl
        · intro listed a W H hj hl hd
          have t41 : a.tmps.getD 41 undef = .pointer (some ⟨g, 0, none⟩) := H.get 11 41 (by kernel_rfl) (dep_of hd 11 (by kernel_rfl)) (fun _ h => by cases h)
          exact step7_value (i := 12) rfl rfl (run_op_fieldAddr rfl t41 (run_field_t0 g W)) (calm7 (fun fs vs x y h hl => JT.later G1L G2L h hl) (by kernel_rfl) (by kernel_rfl) hj (later_refl _)) rfl
        · intro listed a W H hj hl hd
          have t42 : a.tmps.getD 42 undef = .pointer (some ⟨g, 0, none⟩) := H.get 12 42 (by kernel_rfl) (dep_of hd 12 (by kernel_rfl)) (fun _ h => by cases h)
          have t40 : a.tmps.getD 40 undef = .slice (some ⟨h, 0, none⟩) 0 cA := H.get 10 40 (by kernel_rfl) (dep_of hd 10 (by kernel_rfl)) (fun _ h => by cases h)
          have f0 : (flags [10, 13] listed).getD 0 false = true := done_true (dep_of hd 10 (by kernel_rfl))
          have f1 : (flags [10, 13] listed).getD 1 false = false := hl
          have hq := hj.one f0 f1
          have hgt := (hq.2.block g HGLT.out HGH.out).trans HGT.out
          have hcg : W.cell? ⟨g, 0, none⟩ = some (.slice (some ⟨h, 0, none⟩) 1 cA) := by rw [cell_of_row _ _ _ _ _ _ hgt]; rfl
          have hfg : W.frozen? ⟨g, 0, none⟩ = false := by simp [World.frozen?, hgt]
          have hk9 := JT.second (WD := WE) (Q1 := RemH WE base h cA) (fs := flags [10, 13] listed) (vs := slots [] a) (Nat.le_refl 2) f0 (show RemZ WE base g h cA _ from ⟨W, hq, Below.refl _ _⟩)
          rw [← flags_put (m := 13) 1 rfl (by decide)] at hk9
          exact step7_done (i := 13) rfl rfl rfl (run_op_store rfl t42 t40 (run_store_rows g _ (some ⟨h, 0, none⟩) 0 cA W hcg hfg)) hk9 trivial
      · intro a WC hdef hsz hw hall hact
        obtain ⟨u, hu⟩ : ∃ u : Nat → Value, ∀ k, a.tmps.getD k undef = u k := ⟨_, fun _ => rfl⟩
        simp only [hu] at hact
        have hact' : a = ([30, 31, 32, 33, 34, 35, 36, 37, 38, 39, 40, 41, 42] : List Nat).foldl (fun b k => b.put (some k) (u k)) _ := hact
        simp only [List.foldl] at hact'
        simp only [Act.put, List.setIfInBounds_toArray, List.set_cons_succ, List.set_cons_zero] at hact'
        have HAC := Lib.hid hact'
        have HX := Lib.hid hw
        clear hact hact' hall hdef hsz hw
        rw [HAC.out]
        obtain ⟨W7, hz, hb7⟩ := HX.out.two rfl
        have hg7 : W7.heap[g]? = some (.cells #[.slice (some ⟨h, 0, none⟩) 1 cA, .int .i64 m, .int .i64 d] 52 (0, 0)) := (hz.2.block g HGLT.out HGH.out).trans HGT.out
        have hg8 := tab_set0 hg7 (.slice (some ⟨h, 0, none⟩) 0 cA)
        have ht9 : Turn fp w WC := ((HTE.out.trans (hz.2.mono (fq := fp) fun b hb => Or.inl (by rw [hb]; exact HFH.out)) fun b hb => Or.inl hb).trans (Turn.of_setCell (fp := fp) ⟨g, 0, none⟩ (.slice (some ⟨h, 0, none⟩) 0 cA) HK.out.own) fun b hb => Or.inl hb).trans (Turn.of_below (fp := fp) hb7) fun b hb => Or.inl hb
        have hg9 := (hb7.block g (Array.getElem?_eq_some_iff.1 hg8).1).trans hg8
        have hr9 : esK.Row WC base (some ⟨h, 0, none⟩) 0 cA [] := (Row.at_block hz.1 fun b hb => setCell_heap _ _ _ _ _ (by rw [blk_zero h b hb]; exact HHG.out)).since hb7
        have hL0 : L = [] := List.eq_nil_of_length_eq_zero HLN.out
        have HF : Hid (TTurns w base fp g L m d (.returned (.tuple #[])) WC) := by
          rw [hL0]
          exact ⟨rfl, _, HK.out.fin ht9 hg9 (Or.inl ⟨rfl, _, cA, rfl, hr9, fun b hb => Or.inl (by rw [blk_zero h b hb]; exact HFH.out)⟩)⟩
        clear hz hb7 hg7 hg8 ht9 hg9 hr9 hL0 HX hu HAC
        go_wp2_with fail
        go_end0
        rw [HLL.out]
        exact HF.out
    · have hqz : ¬ ((q : Int) = 0) := by omega
      have HF : Hid (TTurns w base fp g L m d (.returned (.tuple #[])) (WC.drew.setCell ⟨h, 0, none⟩ (.slice (some ⟨r, 0, none⟩) q c))) := ⟨rfl, _, HK.out.fin HTW.out HG5.out (Or.inr ⟨by rw [HLN.out]; omega, h, cA, r, c, rfl, HFI.out⟩)⟩
      go_wp2_with fail
      go_end0
      rw [HLL.out]
      exact HF.out
end
end Go.Proofs.Ythamnmadgfmbkaa
