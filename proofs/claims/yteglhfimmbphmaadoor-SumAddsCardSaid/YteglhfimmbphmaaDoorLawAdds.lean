/- SumAdds answers true, for all three texts. Conditions: what the two tables hold; the slices' cells. -/
import Derived.Test.YteglhfimmbphmaaDoorLawFinds
import Derived.Test.YteglhfimmbphmaaDoorOps
import Derived.Deep.RegionHeld3
import Derived.WalkLawsBesides
set_option linter.unusedVariables false
set_option linter.unusedSimpArgs false
namespace Go.Proofs.YteglhfimmbphmaaDoor
open Go.RowKit

def mixed (us vs ws : List Nat) (k : Nat) : List Nat := (List.range k).map fun i => us.getD i 0 ^^^ vs.getD i 0 ^^^ ws.getD i 0
theorem mixed_succ (us vs ws : List Nat) (k : Nat) : mixed us vs ws (k + 1) = mixed us vs ws k ++ [us.getD k 0 ^^^ vs.getD k 0 ^^^ ws.getD k 0] := by
  unfold mixed; rw [List.range_succ, List.map_append]; rfl
theorem reg_mixed (us vs ws : List Nat) (r s t : BitVec 32) : ∀ n, n ≤ us.length → n ≤ vs.length → n ≤ ws.length →
    Crc.reg (r ^^^ s ^^^ t) (mixed us vs ws n) = Crc.reg r (us.take n) ^^^ Crc.reg s (vs.take n) ^^^ Crc.reg t (ws.take n)
  | 0, _, _, _ => by simp [mixed, Crc.reg]
  | n + 1, h1, h2, h3 => by
    rw [mixed_succ, Crc.reg_append, reg_mixed us vs ws r s t n (by omega) (by omega) (by omega), reg_snoc _ _ _ (by omega : n < us.length), reg_snoc _ _ _ (by omega : n < vs.length), reg_snoc _ _ _ (by omega : n < ws.length), ← Crc.byte_mix]
    rfl
theorem more_mixed (us vs ws : List Nat) (n : Nat) (h1 : n ≤ us.length) (h2 : n ≤ vs.length) (h3 : n ≤ ws.length) :
    Crc.more 0#32 (mixed us vs ws n) = Crc.more 0#32 (us.take n) ^^^ Crc.more 0#32 (vs.take n) ^^^ Crc.more 0#32 (ws.take n) := by
  unfold Crc.more
  have e : (~~~ 0#32 : BitVec 32) = ~~~ 0#32 ^^^ ~~~ 0#32 ^^^ ~~~ 0#32 := by decide
  have hr := reg_mixed us vs ws (~~~ 0#32) (~~~ 0#32) (~~~ 0#32) n h1 h2 h3
  rw [← e] at hr
  rw [hr]
  generalize Crc.reg (~~~ 0#32) (us.take n) = x
  generalize Crc.reg (~~~ 0#32) (vs.take n) = y
  generalize Crc.reg (~~~ 0#32) (ws.take n) = z
  apply BitVec.eq_of_getLsbD_eq
  intro i hi
  simp [hi]
theorem mixed_small (us vs ws : List Nat) (n : Nat) (h1 : ∀ k, us.getD k 0 < 256) (h2 : ∀ k, vs.getD k 0 < 256) (h3 : ∀ k, ws.getD k 0 < 256) (k : Nat) : (mixed us vs ws n).getD k 0 < 256 := by
  unfold mixed
  rw [List.getD_eq_getElem?_getD, List.getElem?_map]
  by_cases h : k < n
  · rw [List.getElem?_range h]
    exact Crc.xor_lt_256 (Crc.xor_lt_256 (h1 k) (h2 k)) (h3 k)
  · rw [List.getElem?_eq_none (by simp; omega)]; simp

/-- An append whose run is known, as one step of a region that draws. -/
theorem step_append_run {P : Program} {ops : Array Oper} {o : Oper} {a : Act} {w W' : World} {K : Act → World → Prop} {Q : Exit → Act → World → Prop} {E : Prop} (hg : o.guard = none) (s x : Operand) (t : TypeId)
    (ho : o.op = .call { callee := .builtin .append, args := #[s, x], argTypes := #[t, t] }) {vs vx r : Value} (hs : a.eval s = vs) (hx : a.eval x = vx)
    (hrun : (Builtin.append_ #[t, t] o.type #[vs, vx]).run P w = .ok r W') (hK : K (a.put o.dst r) W') : if Region.wanted o (yielded ops a.tmps) = true then Oper.wp P o a w K Q else E := by
  have hw : Region.wanted o (yielded ops a.tmps) = true := by simp [Region.wanted, hg]
  rw [if_pos hw]
  unfold Oper.wp execOp
  simp only [ho, resolve, invoke, builtin, Sem.run_bind, Sem.run_pure, Result.andThen_ok, List.map_toArray, List.map_cons, List.map_nil, hs, hx, hrun]
  exact hK
theorem since_alloc2 {w W : World} (h : Below w.heap.size w W) (o : Obj) : Below w.heap.size w (W.alloc o) := h.alloc h.size o
theorem since_drew2 {w W : World} (h : Below w.heap.size w W) : Below w.heap.size w W.drew := h.drew

theorem min_three (ts : Array TypeId) (ty : TypeId) (p q r m : Int) (h : (m = p ∧ p ≤ q ∧ p ≤ r) ∨ (m = q ∧ q ≤ p ∧ q ≤ r) ∨ (m = r ∧ r ≤ p ∧ r ≤ q)) (w : World) :
    (Builtin.min_ ts ty #[.int .i64 p, .int .i64 q, .int .i64 r]).run Tryd.prog w = .ok (.int .i64 m) w := by
  simp only [Builtin.min_]
  simp [Builtin.min2]
  omega

set_option maxHeartbeats 2000000 in
theorem adds_some (A A' A'' : Option Addr) (n c n' c' n'' c'' : Nat) (us vs ws : List Nat) (w : World) (hT : Tabs w) (hA : Bytes w w.heap.size A n us) (hB : Bytes w w.heap.size A' n' vs) (hC : Bytes w w.heap.size A'' n'' ws) (hnc : n ≤ c) (hnc' : n' ≤ c') (hnc'' : n'' ≤ c'')
    (N : Nat) (h1 : N ≤ n) (h2 : N ≤ n') (h3 : N ≤ n'') (hN : N ≤ 100)
    (hmin : ∀ ts ty w, (Builtin.min_ ts ty #[.int .i64 (n : Int), .int .i64 (n' : Int), .int .i64 (n'' : Int)]).run Tryd.prog w = .ok (.int .i64 (N : Int)) w) :
    Calls Tryd.prog 6 #[.slice A n c, .slice A' n' c', .slice A'' n'' c''] w fun e w' => e = .returned (.bool true) ∧ Below w.heap.size w w' := by
  have HT := Lib.hid hT
  have HA := Lib.hid hA
  have HB := Lib.hid hB
  have HC := Lib.hid hC
  clear hT hA hB hC
  go_enter Tryd.func6, Tryd.ntmps6
  go_wp2
  clear hmin
  go_loopw [8, 9] (fun v t9 W => ∃ (k : Nat) (B : Option Addr) (q : Nat), k ≤ N ∧ t9 = .int .i64 k ∧ v = .slice B k q ∧ Below w.heap.size w W ∧ Hid (W.ownsRow w.heap.size 5 1 (.slice B k q) k (cellsOf (mixed us vs ws k)))) (fun _ t9 _ => N - (intOf t9).toNat)
  case atStart => exact ⟨0, none, 0, Nat.zero_le _, rfl, rfl, Below.refl _ _, World.ownsRow_nil _ _ _ _⟩
  case round =>
    obtain ⟨k, B, q, hk, rfl, rfl, hS, HO⟩ := hrel
    by_cases hlt : k < N
    · obtain ⟨a1, ha1, g1, c1⟩ := HA.out.at_ (show k < n by omega)
      obtain ⟨a2, ha2, g2, c2⟩ := HB.out.at_ (show k < n' by omega)
      obtain ⟨a3, ha3, g3, c3⟩ := HC.out.at_ (show k < n'' by omega)
      have hy1 := HA.out.small k
      have hy2 := HB.out.small k
      have hy3 := HC.out.small k
      subst ha1 ha2 ha3
      obtain ⟨y1, Y1⟩ : ∃ y : Int, Hid (((us.getD k 0 : Nat) : Int) = y) := ⟨_, rfl⟩
      obtain ⟨y2, Y2⟩ : ∃ y : Int, Hid (((vs.getD k 0 : Nat) : Int) = y) := ⟨_, rfl⟩
      obtain ⟨y3, Y3⟩ : ∃ y : Int, Hid (((ws.getD k 0 : Nat) : Int) = y) := ⟨_, rfl⟩
      obtain ⟨p, hp⟩ : ∃ p : Int, bits .xor .u8 y1 y2 = p := ⟨_, rfl⟩
      obtain ⟨y, hy⟩ : ∃ y : Int, bits .xor .u8 p y3 = y := ⟨_, rfl⟩
      have EY : Hid (((us.getD k 0 ^^^ vs.getD k 0 ^^^ ws.getD k 0 : Nat) : Int) = y) := by
        have hp' := hp
        have hy' := hy
        rw [← Y1.out, ← Y2.out, u8_xor_nat _ _ hy1 hy2] at hp'
        rw [← hp', ← Y3.out, u8_xor_nat _ _ (Crc.xor_lt_256 hy1 hy2) hy3] at hy'
        exact hy'
      have hys : us.getD k 0 ^^^ vs.getD k 0 ^^^ ws.getD k 0 < 256 := Crc.xor_lt_256 (Crc.xor_lt_256 hy1 hy2) hy3
      rw [Y1.out] at c1
      rw [Y2.out] at c2
      rw [Y3.out] at c3
      have KP : Hid (∀ W, Below w.heap.size w W → W.cell? (a1.add k) = some (.int .u8 y1) ∧ W.cell? (a2.add k) = some (.int .u8 y2) ∧ W.cell? (a3.add k) = some (.int .u8 y3)) := fun W hW =>
        ⟨(hW.cell (by rw [addr_block]; exact g1)).trans c1, (hW.cell (by rw [addr_block]; exact g2)).trans c2, (hW.cell (by rw [addr_block]; exact g3)).trans c3⟩
      have hSd : Below w.heap.size w ((wr.alloc (.cells #[.int .u8 y] 5)).drew) := since_drew2 (since_alloc2 hS _)
      have hOd : ((wr.alloc (.cells #[.int .u8 y] 5)).drew).ownsRow w.heap.size 5 1 (.slice B k q) k (cellsOf (mixed us vs ws k)) := HO.out.alloc _
      have hbd : Bytes ((wr.alloc (.cells #[.int .u8 y] 5)).drew) ((wr.alloc (.cells #[.int .u8 y] 5)).drew).heap.size (some ⟨wr.heap.size, 0, none⟩) 1 [us.getD k 0 ^^^ vs.getD k 0 ^^^ ws.getD k 0] :=
        ⟨rfl, fun j hj => ⟨_, rfl, by show wr.heap.size < (wr.alloc _).heap.size; simp, by
          obtain rfl : j = 0 := by omega
          rw [add_zero_addr]
          show (wr.alloc _).cell? _ = _
          rw [cell_new]
          show some (Value.int .u8 y) = some (.int .u8 ((us.getD k 0 ^^^ vs.getD k 0 ^^^ ws.getD k 0 : Nat) : Int))
          rw [EY.out]⟩, fun j => by
          rcases j with _ | j
          · exact hys
          · simp⟩
      obtain ⟨B2, q2, W2, hr2, ho2, hS2⟩ := append_bytes w ((wr.alloc (.cells #[.int .u8 y] 5)).drew) hSd (.slice B k q) k _ hOd (some ⟨wr.heap.size, 0, none⟩) 1 1 _ hbd (by omega)
      rw [← mixed_succ] at ho2
      have R2 := Lib.hid hr2
      have HO2 := Lib.hid ho2
      have i0 : (0 : Int) ≤ (k : Int) := by omega
      have i1 : (k : Int) < (n : Int) := by omega
      have i2 : (k : Int) < (n' : Int) := by omega
      have i3 : (k : Int) < (n'' : Int) := by omega
      clear hr2 ho2 hOd hbd hSd HO c1 c2 c3 hy1 hy2 hy3 hys
      go_wp2
      go_region_held3 (fun W => W.cell? (a1.add k) = some (.int .u8 y1) ∧ W.cell? (a2.add k) = some (.int .u8 y2) ∧ W.cell? (a3.add k) = some (.int .u8 y3))
        ((first | assumption | (refine KP.out _ ?_; repeat (first | assumption | refine since_drew2 ?_ | refine since_alloc2 ?_ _))))
        (first | (refine step_append_run rfl (.tmp 25) (.tmp 40) 24 rfl rfl rfl R2.out ?_))
      go_wp2
      go_roundw
      case rel => exact ⟨k + 1, B2, q2, by omega, by go_num, rfl, hS2, HO2⟩
      case measure => simp [intOf]; omega
    · have HK : Hid (k = N) := by show k = N; omega
      have hk2 : k = N := HK.out
      subst hk2
      clear HK hlt hk
      have hSd : Below w.heap.size w wr.drew := since_drew2 hS
      have HX : Hid (Bytes wr.drew wr.drew.heap.size B k (mixed us vs ws k)) := own_bytes (W := wr.drew) HO.out (mixed_small us vs ws k HA.out.small HB.out.small HC.out.small)
      have HA1 := Lib.hid ((HA.out.first h1).since hSd)
      have HB1 := Lib.hid ((HB.out.first h2).since hSd)
      have HC1 := Lib.hid ((HC.out.first h3).since hSd)
      have HTk := Lib.hid (HT.out.since hSd)
      have lenA := HA.out.len
      have lenB := HB.out.len
      have lenC := HC.out.len
      have hmix := more_mixed us vs ws k (by omega) (by omega) (by omega)
      obtain ⟨vx, EX⟩ : ∃ v : Int, Hid ((((Crc.more 0#32 (mixed us vs ws k)).toNat : Nat) : Int) = v) := ⟨_, rfl⟩
      obtain ⟨va, EA⟩ : ∃ v : Int, Hid ((((Crc.more 0#32 (us.take k)).toNat : Nat) : Int) = v) := ⟨_, rfl⟩
      obtain ⟨vb, EB⟩ : ∃ v : Int, Hid ((((Crc.more 0#32 (vs.take k)).toNat : Nat) : Int) = v) := ⟨_, rfl⟩
      obtain ⟨vc, EC⟩ : ∃ v : Int, Hid ((((Crc.more 0#32 (ws.take k)).toNat : Nat) : Int) = v) := ⟨_, rfl⟩
      obtain ⟨vab, E1⟩ : ∃ v : Int, Hid (bits .xor .u32 va vb = v) := ⟨_, rfl⟩
      have E2 : Hid (bits .xor .u32 vab vc = vx) := by
        show bits .xor .u32 vab vc = vx
        rw [← E1.out, ← EA.out, ← EB.out, ← EC.out, ← EX.out, hmix, u32_xor_nat _ _ (BitVec.isLt _) (BitVec.isLt _), BitVec.toNat_xor, BitVec.toNat_xor]
        exact u32_xor_nat _ _ (Nat.xor_lt_two_pow (n := 32) (BitVec.isLt _) (BitVec.isLt _)) (BitVec.isLt _)
      clear lenA lenB lenC hmix
      have kc1 : n ≤ c := hnc
      have kc2 : n' ≤ c' := hnc'
      have kc3 : n'' ≤ c'' := hnc''
      go_wp2
      refine region_of_steps (by kernel_rfl) (factOf [.is (.slice B k q), .row [.slice B k q], .is (.int .u32 vx), .is (.slice A n c), .is (.int .i64 k), .is (.slice A k c), .row [.slice A k c], .is (.int .u32 va), .is (.slice A' n' c'), .is (.int .i64 k), .is (.slice A' k c'), .row [.slice A' k c'], .is (.int .u32 vb), .is (.int .u32 vab), .is (.slice A'' n'' c''), .is (.int .i64 k), .is (.slice A'' k c''), .row [.slice A'' k c''], .is (.int .u32 vc), .is (.int .u32 vx), .is (.bool true), .is (.bool true), .is (.bool true), .is (.bool true), .is (.bool true)]) Later (by kernel_rfl) (fact_stays _) later_trans (later_refl _) ?_ ?_
      · refine Steps.cons ?_ (Steps.cons ?_ (Steps.cons ?_ (Steps.cons ?_ (Steps.cons ?_ (Steps.cons ?_ (Steps.cons ?_ (Steps.cons ?_ (Steps.cons ?_ (Steps.cons ?_ (Steps.cons ?_ (Steps.cons ?_ (Steps.cons ?_ (Steps.cons ?_ (Steps.cons ?_ (Steps.cons ?_ (Steps.cons ?_ (Steps.cons ?_ (Steps.cons ?_ (Steps.cons ?_ (Steps.cons ?_ (Steps.cons ?_ (Steps.cons ?_ (Steps.cons ?_ (Steps.cons ?_ (Steps.nil)))))))))))))))))))))))))
        · intro listed a W H hw hd
          have e : a.tmps.getD 8 undef = .slice B k q := (H.old 8 (by kernel_rfl)).trans rfl
          exact step_value (i := 0) rfl rfl (run_op_move rfl e) (later_refl _) rfl
        · intro listed a W H hw hd
          have e0 : a.tmps.getD 42 undef = .slice B k q := H.get 0 42 (by kernel_rfl) (dep_of hd 0 (by kernel_rfl))
          exact step_value (i := 1) rfl rfl (run_op_build1 rfl e0 (run_build22 _ _ _ _)) (later_alloc _ _) (row_new _ _ _)
        · intro listed a W H hw hd
          obtain ⟨g, e1, hc⟩ := H.get 1 43 (by kernel_rfl) (dep_of hd 1 (by kernel_rfl))
          refine step_call (i := 2) rfl rfl (run_op_call (vs := #[.slice (some ⟨g, 0, none⟩) 1 1]) Tryd.func11 (by kernel_rfl) (by kernel_rfl) rfl (by simp only [List.map_toArray, List.map_cons, List.map_nil]; show #[a.tmps.getD 43 undef] = _; rw [e1]; rfl)) ?_
          refine (of_row hw HTk.out (by omega) (hc 0 _ rfl) (HX.out)).mono ?_
          rintro e W' ⟨he, hb⟩
          exact ⟨_, he, hb, by rw [← EX.out]; rfl⟩
        · intro listed a W H hw hd
          have e : a.tmps.getD 0 undef = .slice A n c := (H.old 0 (by kernel_rfl)).trans rfl
          exact step_value (i := 3) rfl rfl (run_op_move rfl e) (later_refl _) rfl
        · intro listed a W H hw hd
          have e : a.tmps.getD 7 undef = .int .i64 k := (H.old 7 (by kernel_rfl)).trans rfl
          exact step_value (i := 4) rfl rfl (run_op_move rfl e) (later_refl _) rfl
        · intro listed a W H hw hd
          have e3 : a.tmps.getD 45 undef = .slice A n c := H.get 3 45 (by kernel_rfl) (dep_of hd 3 (by kernel_rfl))
          have e4 : a.tmps.getD 46 undef = .int .i64 k := H.get 4 46 (by kernel_rfl) (dep_of hd 4 (by kernel_rfl))
          exact step_value (i := 5) rfl rfl (run_op_slice rfl (by show (Instr.sliceAt 24 (a.tmps.getD 45 undef) none (some (a.tmps.getD 46 undef)) none).run _ _ = _; rw [e3, e4, run_sliceAt_slice (h := under24)]; exact slice_to A n c k h1 (by omega) W)) (later_refl _) rfl
        · intro listed a W H hw hd
          have e5 : a.tmps.getD 47 undef = .slice A k c := H.get 5 47 (by kernel_rfl) (dep_of hd 5 (by kernel_rfl))
          exact step_value (i := 6) rfl rfl (run_op_build1 rfl e5 (run_build22 _ _ _ _)) (later_alloc _ _) (row_new _ _ _)
        · intro listed a W H hw hd
          obtain ⟨g, e6, hc⟩ := H.get 6 48 (by kernel_rfl) (dep_of hd 6 (by kernel_rfl))
          refine step_call (i := 7) rfl rfl (run_op_call (vs := #[.slice (some ⟨g, 0, none⟩) 1 1]) Tryd.func11 (by kernel_rfl) (by kernel_rfl) rfl (by simp only [List.map_toArray, List.map_cons, List.map_nil]; show #[a.tmps.getD 48 undef] = _; rw [e6]; rfl)) ?_
          refine (of_row hw HTk.out (by omega) (hc 0 _ rfl) (HA1.out)).mono ?_
          rintro e W' ⟨he, hb⟩
          exact ⟨_, he, hb, by rw [← EA.out]; rfl⟩
        · intro listed a W H hw hd
          have e : a.tmps.getD 1 undef = .slice A' n' c' := (H.old 1 (by kernel_rfl)).trans rfl
          exact step_value (i := 8) rfl rfl (run_op_move rfl e) (later_refl _) rfl
        · intro listed a W H hw hd
          have e : a.tmps.getD 7 undef = .int .i64 k := (H.old 7 (by kernel_rfl)).trans rfl
          exact step_value (i := 9) rfl rfl (run_op_move rfl e) (later_refl _) rfl
        · intro listed a W H hw hd
          have e8 : a.tmps.getD 50 undef = .slice A' n' c' := H.get 8 50 (by kernel_rfl) (dep_of hd 8 (by kernel_rfl))
          have e9 : a.tmps.getD 51 undef = .int .i64 k := H.get 9 51 (by kernel_rfl) (dep_of hd 9 (by kernel_rfl))
          exact step_value (i := 10) rfl rfl (run_op_slice rfl (by show (Instr.sliceAt 24 (a.tmps.getD 50 undef) none (some (a.tmps.getD 51 undef)) none).run _ _ = _; rw [e8, e9, run_sliceAt_slice (h := under24)]; exact slice_to A' n' c' k h2 (by omega) W)) (later_refl _) rfl
        · intro listed a W H hw hd
          have e10 : a.tmps.getD 52 undef = .slice A' k c' := H.get 10 52 (by kernel_rfl) (dep_of hd 10 (by kernel_rfl))
          exact step_value (i := 11) rfl rfl (run_op_build1 rfl e10 (run_build22 _ _ _ _)) (later_alloc _ _) (row_new _ _ _)
        · intro listed a W H hw hd
          obtain ⟨g, e11, hc⟩ := H.get 11 53 (by kernel_rfl) (dep_of hd 11 (by kernel_rfl))
          refine step_call (i := 12) rfl rfl (run_op_call (vs := #[.slice (some ⟨g, 0, none⟩) 1 1]) Tryd.func11 (by kernel_rfl) (by kernel_rfl) rfl (by simp only [List.map_toArray, List.map_cons, List.map_nil]; show #[a.tmps.getD 53 undef] = _; rw [e11]; rfl)) ?_
          refine (of_row hw HTk.out (by omega) (hc 0 _ rfl) (HB1.out)).mono ?_
          rintro e W' ⟨he, hb⟩
          exact ⟨_, he, hb, by rw [← EB.out]; rfl⟩
        · intro listed a W H hw hd
          have e7 : a.tmps.getD 49 undef = .int .u32 va := H.get 7 49 (by kernel_rfl) (dep_of hd 7 (by kernel_rfl))
          have e12 : a.tmps.getD 54 undef = .int .u32 vb := H.get 12 54 (by kernel_rfl) (dep_of hd 12 (by kernel_rfl))
          exact step_value (i := 13) rfl rfl (run_op_bin rfl e7 e12 (run_xor32 _ _ _ _ _)) (later_refl _) (by rw [E1.out]; rfl)
        · intro listed a W H hw hd
          have e : a.tmps.getD 2 undef = .slice A'' n'' c'' := (H.old 2 (by kernel_rfl)).trans rfl
          exact step_value (i := 14) rfl rfl (run_op_move rfl e) (later_refl _) rfl
        · intro listed a W H hw hd
          have e : a.tmps.getD 7 undef = .int .i64 k := (H.old 7 (by kernel_rfl)).trans rfl
          exact step_value (i := 15) rfl rfl (run_op_move rfl e) (later_refl _) rfl
        · intro listed a W H hw hd
          have e14 : a.tmps.getD 56 undef = .slice A'' n'' c'' := H.get 14 56 (by kernel_rfl) (dep_of hd 14 (by kernel_rfl))
          have e15 : a.tmps.getD 57 undef = .int .i64 k := H.get 15 57 (by kernel_rfl) (dep_of hd 15 (by kernel_rfl))
          exact step_value (i := 16) rfl rfl (run_op_slice rfl (by show (Instr.sliceAt 24 (a.tmps.getD 56 undef) none (some (a.tmps.getD 57 undef)) none).run _ _ = _; rw [e14, e15, run_sliceAt_slice (h := under24)]; exact slice_to A'' n'' c'' k h3 (by omega) W)) (later_refl _) rfl
        · intro listed a W H hw hd
          have e16 : a.tmps.getD 58 undef = .slice A'' k c'' := H.get 16 58 (by kernel_rfl) (dep_of hd 16 (by kernel_rfl))
          exact step_value (i := 17) rfl rfl (run_op_build1 rfl e16 (run_build22 _ _ _ _)) (later_alloc _ _) (row_new _ _ _)
        · intro listed a W H hw hd
          obtain ⟨g, e17, hc⟩ := H.get 17 59 (by kernel_rfl) (dep_of hd 17 (by kernel_rfl))
          refine step_call (i := 18) rfl rfl (run_op_call (vs := #[.slice (some ⟨g, 0, none⟩) 1 1]) Tryd.func11 (by kernel_rfl) (by kernel_rfl) rfl (by simp only [List.map_toArray, List.map_cons, List.map_nil]; show #[a.tmps.getD 59 undef] = _; rw [e17]; rfl)) ?_
          refine (of_row hw HTk.out (by omega) (hc 0 _ rfl) (HC1.out)).mono ?_
          rintro e W' ⟨he, hb⟩
          exact ⟨_, he, hb, by rw [← EC.out]; rfl⟩
        · intro listed a W H hw hd
          have e13 : a.tmps.getD 55 undef = .int .u32 vab := H.get 13 55 (by kernel_rfl) (dep_of hd 13 (by kernel_rfl))
          have e18 : a.tmps.getD 60 undef = .int .u32 vc := H.get 18 60 (by kernel_rfl) (dep_of hd 18 (by kernel_rfl))
          exact step_value (i := 19) rfl rfl (run_op_bin rfl e13 e18 (run_xor32 _ _ _ _ _)) (later_refl _) (by rw [E2.out]; rfl)
        · intro listed a W H hw hd
          have e2 : a.tmps.getD 44 undef = .int .u32 vx := H.get 2 44 (by kernel_rfl) (dep_of hd 2 (by kernel_rfl))
          have e19 : a.tmps.getD 61 undef = .int .u32 vx := H.get 19 61 (by kernel_rfl) (dep_of hd 19 (by kernel_rfl))
          exact step_value (i := 20) rfl rfl (run_op_bin rfl e2 e19 (run_eql32 _ _ _ _ rfl _)) (later_refl _) rfl
        · intro listed a W H hw hd
          have e20 : a.tmps.getD 62 undef = .bool true := H.get 20 62 (by kernel_rfl) (dep_of hd 20 (by kernel_rfl))
          exact step_value (i := 21) rfl rfl (run_op_move rfl e20) (later_refl _) rfl
        · intro listed a W H hw hd
          have e21 : a.tmps.getD 63 undef = .bool true := H.get 21 63 (by kernel_rfl) (dep_of hd 21 (by kernel_rfl))
          refine step_call (i := 22) rfl (wanted_at (j := 21) (d := 63) (b := true) rfl (by kernel_rfl) e21) (run_op_call (vs := #[]) Tryd.func9 (by kernel_rfl) (by kernel_rfl) rfl (by simp)) ?_
          refine (awake_any _ (HTk.out.since hw)).mono ?_
          rintro e W' ⟨he, hb⟩
          exact ⟨_, he, hb, rfl⟩
        · intro listed a W H hw hd
          have e21 : a.tmps.getD 63 undef = .bool true := H.get 21 63 (by kernel_rfl) (dep_of hd 21 (by kernel_rfl))
          have e22 : a.tmps.getD 64 undef = .bool true := H.get 22 64 (by kernel_rfl) (dep_of hd 22 (by kernel_rfl))
          exact step_value (i := 23) rfl rfl (run_op_pick rfl e21 e22) (later_refl _) rfl
        · intro listed a W H hw hd
          have e23 : a.tmps.getD 65 undef = .bool true := H.get 23 65 (by kernel_rfl) (dep_of hd 23 (by kernel_rfl))
          exact step_value (i := 24) rfl rfl (run_op_assign rfl e23) (later_refl _) rfl
      · intro a W hdef hsz hw hall
        have e : a.tmps.getD 6 undef = .bool true := hall 24 _ rfl
        go_wp2
        refine bodyPost_ret (results_tmp rfl a.tmps Tryd.prog W) hdef ?_
        exact ⟨congrArg Ending.returned e, hSd.trans (hw.mono (by show _ ≤ wr.heap.size; exact hS.size))⟩
theorem adds_none (A A' A'' : Option Addr) (n c n' c' n'' c'' : Nat) (w : World) (hT : Tabs w) (N : Nat) (hN : 100 < N) (hN2 : N ≤ 9223372036854775807)
    (hmin : ∀ ts ty w, (Builtin.min_ ts ty #[.int .i64 (n : Int), .int .i64 (n' : Int), .int .i64 (n'' : Int)]).run Tryd.prog w = .ok (.int .i64 (N : Int)) w) :
    Calls Tryd.prog 6 #[.slice A n c, .slice A' n' c', .slice A'' n'' c''] w fun e w' => e = .returned (.bool true) ∧ Below w.heap.size w w' := by
  have HT := Lib.hid hT
  clear hT
  go_enter Tryd.func6, Tryd.ntmps6
  go_wp2_with fail
  refine (awake_any _ HT.out).mono ?_
  rintro e w' ⟨rfl, hb⟩
  go_wp2_with fail
  go_ret
  exact ⟨rfl, hb⟩
theorem adds_law (A : Option Addr) (n c : Nat) (us : List Nat) (A' : Option Addr) (n' c' : Nat) (vs : List Nat) (A'' : Option Addr) (n'' c'' : Nat) (ws : List Nat) (hc : n ≤ c) (hc' : n' ≤ c') (hc'' : n'' ≤ c'')
    (hn : n ≤ 9223372036854775807) (hn' : n' ≤ 9223372036854775807) (hn'' : n'' ≤ 9223372036854775807) (w : World) (hT : Tabs w) (hA : Bytes w w.heap.size A n us) (hB : Bytes w w.heap.size A' n' vs) (hC : Bytes w w.heap.size A'' n'' ws) :
    Calls Tryd.prog 6 #[.slice A n c, .slice A' n' c', .slice A'' n'' c''] w fun e w' => e = .returned (.bool true) ∧ Below w.heap.size w w' := by
  obtain ⟨N, hN⟩ : ∃ N : Nat, (N = n ∧ n ≤ n' ∧ n ≤ n'') ∨ (N = n' ∧ n' ≤ n ∧ n' ≤ n'') ∨ (N = n'' ∧ n'' ≤ n ∧ n'' ≤ n') := by
    by_cases h1 : n ≤ n' ∧ n ≤ n''
    · exact ⟨n, Or.inl ⟨rfl, h1.1, h1.2⟩⟩
    · by_cases h2 : n' ≤ n ∧ n' ≤ n''
      · exact ⟨n', Or.inr (Or.inl ⟨rfl, h2.1, h2.2⟩)⟩
      · exact ⟨n'', Or.inr (Or.inr ⟨rfl, by omega, by omega⟩)⟩
  have hmin : ∀ ts ty w, (Builtin.min_ ts ty #[.int .i64 (n : Int), .int .i64 (n' : Int), .int .i64 (n'' : Int)]).run Tryd.prog w = .ok (.int .i64 (N : Int)) w := fun ts ty w => min_three ts ty _ _ _ _ (by omega) w
  by_cases hl : 100 < N
  · exact adds_none A A' A'' n c n' c' n'' c'' w hT N hl (by omega) hmin
  · exact adds_some A A' A'' n c n' c' n'' c'' us vs ws w hT hA hB hC hc hc' hc'' N (by omega) (by omega) (by omega) (by omega) hmin
end Go.Proofs.YteglhfimmbphmaaDoor
