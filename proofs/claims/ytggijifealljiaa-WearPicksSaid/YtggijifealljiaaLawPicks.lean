/- WearPicks: true, whatever its arguments are. Conditions: the list's cells. -/
import Derived.Test.YtggijifealljiaaLawShifts
import Derived.Test.YtggijifealljiaaChTwo
import Derived.Test.YtggijifealljiaaBits1
set_option linter.unusedVariables false
set_option linter.unusedSimpArgs false
namespace Go.Proofs.Ytggijifealljiaa
open Go.RowKit

theorem run_build_bool (x : Bool) (w : World) : (Instr.buildSlice 23 1 #[(0, .bool x)]).run Try.prog w = .ok (.slice (some ⟨w.heap.size, 0, none⟩) 1 1) (w.alloc (.cells #[.bool x] 4)) := by go_simp
theorem run_index_b (ad : Addr) (n c k : Nat) (hk : k < n) (w : World) : (Instr.indexAt 23 (.slice (some ad) n c) (.int .i64 (k : Int))).run Try.prog w = .ok (.pointer (some (ad.add k))) w := by
  have i0 : (0 : Int) ≤ (k : Int) := by omega
  have i1 : (k : Int) < (n : Int) := by omega
  go_simp
theorem run_load_bool (p : Addr) (z : Bool) (w : World) (hc : w.cell? p = some (.bool z)) : (Instr.loadAt 4 (.pointer (some p))).run Try.prog w = .ok (.bool z) w := by go_simp
theorem run_index_z (ad : Addr) (n c : Nat) (hk : 0 < n) (w : World) : (Instr.indexAt 22 (.slice (some ad) n c) (.int .i64 0)).run Try.prog w = .ok (.pointer (some (ad.add 0))) w := run_index_i ad n c 0 hk w
section
variable {ops : Array Oper}
/-- A guard that was left out itself. -/
theorem unwanted_none {o : Oper} {a : Act} {j : Nat} {d : Tmp} {b : Bool} (hg : o.guard = some (j, b)) (hd : (ops[j]?).bind (·.dst) = some d) (hv : a.tmps.getD d undef = undef) : Region.wanted o (yielded ops a.tmps) = false := by
  have hy : yielded ops a.tmps j = none := by
    unfold yielded
    simp only [hd, Option.bind_some]
    rcases Nat.lt_or_ge d a.tmps.size with h | h
    · simp only [Array.getD_eq_getD_getElem?, Array.getElem?_eq_getElem h, Option.getD_some] at hv
      rw [Array.getElem?_eq_getElem h, hv]; rfl
    · rw [Array.getElem?_eq_none h]
  simp only [Region.wanted, hg, hy]
  cases b <;> rfl
end
/-- One bit of a number. -/
def bitW (x : Int) (q : Nat) : Bool := decide (x / 2 ^ q % 2 = 1)
def bitsW (x : Int) (n : Nat) : List Bool := (List.range n).map fun q => bitW x q
/-- How many of the first n count. -/
def manyN (cs : List Bool) : Nat → Nat
  | 0 => 0
  | n + 1 => manyN cs n + if isC cs n = true then 1 else 0
section
variable {x : Int} {n k q i j : Nat} {ws : List Int} {cs : List Bool}
theorem bitW_and : bits .and .i64 (x / 2 ^ q) 1 = if bitW x q = true then 1 else 0 := by
  rw [i64_and1]
  unfold bitW
  by_cases h : x / 2 ^ q % 2 = 1
  · simp [h]
  · simp [h]; omega
theorem bitsW_len : (bitsW x n).length = n := by simp [bitsW]
theorem bitsW_next (hk : k < n) : (bitsW x n).take (k + 1) = (bitsW x n).take k ++ [bitW x k] := by
  have h : k < (bitsW x n).length := by rw [bitsW_len]; exact hk
  rw [List.take_add_one, List.getElem?_eq_getElem h]
  simp [bitsW]
theorem bitsW_is (hk : k < n) : isC (bitsW x n) k = bitW x k := by
  unfold isC bitsW
  rw [List.getD_eq_getElem?_getD, List.getElem?_map, List.getElem?_range hk]; rfl
theorem order_many : ∀ n, (orderN ws cs n).length = manyN cs n
  | 0 => rfl
  | n + 1 => by
    unfold orderN manyN
    split
    · rw [ins_length, order_many n]
    · rw [order_many n, Nat.add_zero]
theorem many_le : ∀ n, manyN cs n ≤ n
  | 0 => Nat.le_refl _
  | n + 1 => by
    unfold manyN
    have := many_le n
    split <;> omega
/-- Members of the order. -/
theorem order_at (hi : i < (orderN ws cs n).length) : (orderN ws cs n).getD i 0 < n ∧ isC cs ((orderN ws cs n).getD i 0) = true := by
  refine ((order_is (ws := ws) (cs := cs) n).all _).1 ?_
  rw [List.getD_eq_getElem?_getD, List.getElem?_eq_getElem hi]
  exact List.getElem_mem hi
theorem order_lex (hij : i < j) (hj : j < (orderN ws cs n).length) : lexW ws ((orderN ws cs n).getD i 0) ((orderN ws cs n).getD j 0) := by
  have := List.pairwise_iff_getElem.1 (order_is (ws := ws) (cs := cs) n).up i j (by omega) hj hij
  rw [List.getD_eq_getElem?_getD, List.getD_eq_getElem?_getD, List.getElem?_eq_getElem hj, List.getElem?_eq_getElem (show i < (orderN ws cs n).length by omega)]
  exact this
/-- The most worn one is worn as the last. -/
theorem great_last {g : Nat} (hg : IsGreat ws cs n g) (h0 : 0 < (orderN ws cs n).length) : keyW ws g = keyW ws ((orderN ws cs n).getD ((orderN ws cs n).length - 1) 0) := by
  obtain ⟨h1, h2⟩ := order_at (ws := ws) (cs := cs) (n := n) (i := (orderN ws cs n).length - 1) (by omega)
  have h3 := hg.le _ h1 h2
  obtain ⟨p, hp, rfl⟩ := List.mem_iff_getElem.1 (((order_is (ws := ws) (cs := cs) n).all g).2 ⟨hg.lt, hg.is⟩)
  have h4 := up_le (order_is (ws := ws) (cs := cs) n).up (show p ≤ (orderN ws cs n).length - 1 by omega) (show (orderN ws cs n).length - 1 < (orderN ws cs n).length by omega)
  have e : (orderN ws cs n)[p] = (orderN ws cs n).getD p 0 := by rw [List.getD_eq_getElem?_getD, List.getElem?_eq_getElem hp]; rfl
  rw [e] at h3 ⊢
  omega
end
set_option maxHeartbeats 64000000 in
set_option maxRecDepth 20000 in
theorem picks_law (A : Option Addr) (n c : Nat) (ws : List Int) (x : Int) (w : World) (hn : n ≤ 9223372036854775807) (hA : intK.Lie w w.heap.size A n ws) :
    Calls Try.prog 6 #[.slice A n c, .int .i64 x] w (SaysB w true) := by
  have HA := Lib.hid hA
  have HAL := Lib.hid hA.len
  clear hA
  by_cases h32 : 32 < n
  · go_enter Try.func6, Try.ntmps6
    go_wp2_with fail
    refine (wawake_any _).mono ?_
    rintro e W1 ⟨rfl, hb⟩
    go_wp2_with fail
    go_ret
    exact ⟨rfl, hb⟩
  have hn32 : n ≤ 32 := by omega
  clear h32 hn
  obtain ⟨xs, HX⟩ : ∃ us, Hid (lowsW ws 50 = us) := ⟨_, rfl⟩
  obtain ⟨cs, HC⟩ : ∃ cs, Hid (bitsW x n = cs) := ⟨_, rfl⟩
  have HXL : Hid (xs.length = n) := by show _ = _; rw [← HX.out, lows_len]; exact HAL.out
  have HCL : Hid (cs.length = n) := by show _ = _; rw [← HC.out, bitsW_len]
  have HXS : Hid (Small xs 49) := by show Small _ _; rw [← HX.out]; exact lows_small (by omega)
  have S0 : Hid (Below w.heap.size w w) := Below.refl _ _
  go_enter Try.func6, Try.ntmps6
  go_wp2_with fail
  go_loopw [5, 6, 7, 8] (fun t5 t6 t7 t8 wr => ∃ (k m : Nat) (A5 : Option Addr) (c5 : Nat) (A6 : Option Addr) (c6 : Nat), t5 = .slice A5 k c5 ∧ t6 = .slice A6 k c6 ∧ t7 = .int .i64 m ∧ t8 = .int .i64 k ∧ k ≤ n ∧ m ≤ k ∧ Hid (manyN cs k = m) ∧ Hid (Pair wr w.heap.size A5 k c5 (xs.take k) A6 k c6 (cs.take k)) ∧ Hid (Below w.heap.size w wr)) (fun _ _ _ t8 _ => n - (intOf t8).toNat)
  case atStart => exact ⟨0, 0, none, 0, none, 0, rfl, rfl, rfl, rfl, Nat.zero_le _, Nat.le_refl _, rfl, ⟨Kind.Row.none_, Kind.Row.none_⟩, S0⟩
  case round =>
    clear S0
    obtain ⟨Wa, rfl⟩ : ∃ Wa, Wa = wr := ⟨_, rfl⟩
    obtain ⟨k, m, A5, c5, A6, c6, rfl, rfl, rfl, rfl, hk, hm, HM, HP, HB⟩ := hrel
    have k0 : (0 : Int) ≤ (k : Int) := by omega
    by_cases hlt : k < n
    · skip
      have k1 : (k : Int) < (n : Int) := by omega
      have k63 : k < 64 := by omega
      obtain ⟨y, HY⟩ : ∃ y, Hid (ws.getD k 0 = y) := ⟨_, rfl⟩
      obtain ⟨v, HV⟩ : ∃ v, Hid (lowM y 50 = v) := ⟨_, rfl⟩
      have hv := lowM_bd y 50 (by omega)
      rw [HV.out] at hv
      have HXN : Hid (xs.take (k + 1) = xs.take k ++ [v]) := by show _ = _; rw [← HX.out, ← HV.out, ← HY.out]; exact lows_next (by rw [HAL.out]; exact hlt)
      obtain ⟨bi, HBI⟩ : ∃ b, Hid (bitW x k = b) := ⟨_, rfl⟩
      have HCN : Hid (cs.take (k + 1) = cs.take k ++ [bi]) := by show _ = _; rw [← HC.out, bitsW_next hlt, HBI.out]
      obtain ⟨r1, HR1⟩ : ∃ r, Hid (x / 2 ^ k = r) := ⟨_, rfl⟩
      have hβ := bitW_and (x := x) (q := k)
      rw [HBI.out, HR1.out] at hβ
      have hmn : manyN cs (k + 1) = m + if bi = true then 1 else 0 := by
        show manyN cs k + (if isC cs k = true then 1 else 0) = _
        rw [HM.out, ← HC.out, bitsW_is hlt, HBI.out]
      obtain ⟨β, HBT⟩ : ∃ β : Int, Hid (bits .and .i64 r1 1 = β) := ⟨_, rfl⟩
      rw [HBT.out] at hβ
      obtain ⟨m2, HM2⟩ : ∃ q, Hid (m + (if bi = true then 1 else 0) = q) := ⟨_, rfl⟩
      have HMB : Hid ((m : Int) + β = (m2 : Int)) := by show _ = _; rw [hβ, ← HM2.out]; split <;> simp
      have hm2 : m2 ≤ k + 1 := by rw [← HM2.out]; split <;> omega
      have HMN : Hid (manyN cs (k + 1) = m2) := hmn.trans HM2.out
      have HBQ : Hid ((β == 1) = bi) := by show _ = _; rw [hβ]; cases bi <;> rfl
      clear hmn hβ HM2 HBI HM
      go_wp2_with fail
      obtain ⟨WE, HWE⟩ : ∃ W, Hid (W = Wa.drew) := ⟨_, rfl⟩
      have HEL : Hid (Later Wa WE) := by rw [HWE.out]; exact (Below.refl _ _).drew
      have PE := Lib.hid (HP.out.since HEL.out)
      have BE := Lib.hid (below_chain HB.out HEL.out)
      have HAE := Lib.hid (HA.out.since BE.out)
      obtain ⟨ad, had, hblk, hc⟩ := int_at HAE.out hlt
      rw [HY.out] at hc
      subst had
      have HOK : Hid (P2.Ok (⟨WE, w.heap.size, A5, k, c5, xs.take k, v, A6, k, c6, cs.take k, bi⟩ : P2 intK boolK)) := ⟨⟨by show (-9223372036854775808 : Int) ≤ v; omega, by show v ≤ (9223372036854775807 : Int); omega⟩, trivial, by show k + 1 ≤ 8000; omega, by show k + 1 ≤ 8000; omega, BE.out.size⟩
      have HKEEP : Hid (∀ fs vs W, ChJ (⟨WE, w.heap.size, A5, k, c5, xs.take k, v, A6, k, c6, cs.take k, bi⟩ : P2 intK boolK) fs vs W → W.cell? (ad.add k) = some (.int .i64 y)) := fun fs vs W h => by
        have hb : Below w.heap.size w W := BE.out.trans (h.turn.below (fun b hb => by
          rcases hb with hb | hb
          · exact Row.blk_ge PE.out.a b hb
          · exact Row.blk_ge PE.out.b b hb) BE.out.size)
        obtain ⟨ad2, e2, _, h2⟩ := int_at (HA.out.since hb) hlt
        obtain rfl := Option.some.inj e2
        rw [HY.out] at h2
        exact h2
      clear HP HB
      refine region_of_steps7 (by kernel_rfl) [some (.slice A5 k c5), some (.slice (some ad) n c), some (.int .i64 (k : Int)), some (.pointer (some (ad.add k))), some (.int .i64 y), some (.int .i64 v), none, none, some (.slice A6 k c6), some (.int .i64 x), some (.int .i64 (k : Int)), some (.int .i64 r1), some (.int .i64 β), some (.bool bi), none, none, none, none] [6, 7, 14, 15, 16, 17] [28, 29, 36, 37, 5, 6] (ChJ (⟨WE, w.heap.size, A5, k, c5, xs.take k, v, A6, k, c6, cs.take k, bi⟩ : P2 intK boolK)) (by kernel_rfl) (by kernel_rfl) (by rw [← HWE.out]; exact ChJ.start HOK.out (by rw [slots_len]; rfl) PE.out.a PE.out.b (rows_apart int_bool PE.out.a PE.out.b)) ?_ ?_
      · refine Steps7.cons ?_ (Steps7.cons ?_ (Steps7.cons ?_ (Steps7.cons ?_ (Steps7.cons ?_ (Steps7.cons ?_ (Steps7.cons ?_ (Steps7.cons ?_ (Steps7.cons ?_ (Steps7.cons ?_ (Steps7.cons ?_ (Steps7.cons ?_ (Steps7.cons ?_ (Steps7.cons ?_ (Steps7.cons ?_ (Steps7.cons ?_ (Steps7.cons ?_ (Steps7.cons ?_ (Steps7.nil))))))))))))))))))
        · intro listed a W H hj hl hd
          have t5 : a.tmps.getD 5 undef = .slice A5 k c5 := (H.before 5 16 0 (by kernel_rfl) (by kernel_rfl) hl).trans rfl
          exact step7_value (i := 0) rfl rfl (run_op_move rfl t5) (calm7 (fun fs vs x y h hl => ChJ.later h hl) (by kernel_rfl) (by kernel_rfl) hj (later_refl _)) rfl
        · intro listed a W H hj hl hd
          have t0 : a.tmps.getD 0 undef = .slice (some ad) n c := (H.old 0 (by kernel_rfl)).trans rfl
          exact step7_value (i := 1) rfl rfl (run_op_move rfl t0) (calm7 (fun fs vs x y h hl => ChJ.later h hl) (by kernel_rfl) (by kernel_rfl) hj (later_refl _)) rfl
        · intro listed a W H hj hl hd
          have t8 : a.tmps.getD 8 undef = .int .i64 (k : Int) := (H.old 8 (by kernel_rfl)).trans rfl
          exact step7_value (i := 2) rfl rfl (run_op_move rfl t8) (calm7 (fun fs vs x y h hl => ChJ.later h hl) (by kernel_rfl) (by kernel_rfl) hj (later_refl _)) rfl
        · intro listed a W H hj hl hd
          have t23 : a.tmps.getD 23 undef = .slice (some ad) n c := H.get 1 23 (by kernel_rfl) (dep_of hd 1 (by kernel_rfl)) (fun _ h => by cases h)
          have t24 : a.tmps.getD 24 undef = .int .i64 (k : Int) := H.get 2 24 (by kernel_rfl) (dep_of hd 2 (by kernel_rfl)) (fun _ h => by cases h)
          exact step7_value (i := 3) rfl rfl (run_op_index rfl t23 t24 (run_index_i ad n c k hlt W)) (calm7 (fun fs vs x y h hl => ChJ.later h hl) (by kernel_rfl) (by kernel_rfl) hj (later_refl _)) rfl
        · intro listed a W H hj hl hd
          have t25 : a.tmps.getD 25 undef = .pointer (some (ad.add k)) := H.get 3 25 (by kernel_rfl) (dep_of hd 3 (by kernel_rfl)) (fun _ h => by cases h)
          exact step7_value (i := 4) rfl rfl (run_op_load rfl t25 (run_load_int _ _ W (HKEEP.out _ _ _ hj))) (calm7 (fun fs vs x y h hl => ChJ.later h hl) (by kernel_rfl) (by kernel_rfl) hj (later_refl _)) rfl
        · intro listed a W H hj hl hd
          have t26 : a.tmps.getD 26 undef = .int .i64 y := H.get 4 26 (by kernel_rfl) (dep_of hd 4 (by kernel_rfl)) (fun _ h => by cases h)
          refine step7_call (i := 5) rfl rfl (run_op_call (vs := #[.int .i64 y, .int .i64 50]) Try.func22 (by kernel_rfl) (by kernel_rfl) rfl (by simp only [List.map_toArray, List.map_cons, List.map_nil]; show #[a.tmps.getD 26 undef, .int .i64 50] = _; rw [t26])) ?_
          refine (low_any y 50 (by omega) (by omega) W).mono ?_
          rw [HV.out]
          rintro e w' ⟨rfl, rfl⟩
          exact ⟨_, rfl, (calm7 (fun fs vs x y h hl => ChJ.later h hl) (by kernel_rfl) (by kernel_rfl) hj (later_refl _)), rfl⟩
        · intro listed a W H hj hl hd
          have t27 : a.tmps.getD 27 undef = .int .i64 v := H.get 5 27 (by kernel_rfl) (dep_of hd 5 (by kernel_rfl)) (fun _ h => by cases h)
          have f0 : (flags [6, 7, 14, 15, 16, 17] listed).getD 0 false = false := hl
          have f1 : (flags [6, 7, 14, 15, 16, 17] listed).getD 1 false = false := H.notyets 6 hl (by kernel_rfl)
          have hk9 := hj.build1 f0 f1 #[.int .i64 v] rfl
          rw [← flags_put (m := 6) 0 rfl (by decide), ← slots_at (a := a) (d := 28) 0 rfl (by decide) (by rw [H.size]; exact of_decide_eq_true (by kernel_rfl))] at hk9
          exact step7_value (i := 6) rfl rfl (run_op_build rfl (by simp only [List.map_toArray, List.map_cons, List.map_nil]; show (Instr.buildSlice 22 1 #[(0, a.tmps.getD 27 undef)]).run _ _ = _; rw [t27]; exact run_build_int _ W)) hk9 trivial
        · intro listed a W H hj hl hd
          have t22 : a.tmps.getD 22 undef = .slice A5 k c5 := H.get 0 22 (by kernel_rfl) (dep_of hd 0 (by kernel_rfl)) (fun _ h => by cases h)
          have d28 : listed.getD 6 false = true := dep_of hd 6 (by kernel_rfl)
          have f0 : (flags [6, 7, 14, 15, 16, 17] listed).getD 0 false = true := done_true (dep_of hd 6 (by kernel_rfl))
          have f1 : (flags [6, 7, 14, 15, 16, 17] listed).getD 1 false = false := hl
          have f4 : (flags [6, 7, 14, 15, 16, 17] listed).getD 4 false = false := H.notyets 6 hl (by kernel_rfl)
          obtain ⟨A9, c9, W9, hr, hk9⟩ := hj.append1 f0 f1 f4
          rw [← flags_put (m := 7) 1 rfl (by decide), ← slots_at (a := a) (d := 29) 1 rfl (by decide) (by rw [H.size]; exact of_decide_eq_true (by kernel_rfl))] at hk9
          exact step7_value (i := 7) rfl rfl (run_op_append rfl t22 rfl hr) hk9 trivial
        · intro listed a W H hj hl hd
          have t6 : a.tmps.getD 6 undef = .slice A6 k c6 := (H.before 6 17 8 (by kernel_rfl) (by kernel_rfl) hl).trans rfl
          exact step7_value (i := 8) rfl rfl (run_op_move rfl t6) (calm7 (fun fs vs x y h hl => ChJ.later h hl) (by kernel_rfl) (by kernel_rfl) hj (later_refl _)) rfl
        · intro listed a W H hj hl hd
          have t1 : a.tmps.getD 1 undef = .int .i64 x := (H.old 1 (by kernel_rfl)).trans rfl
          exact step7_value (i := 9) rfl rfl (run_op_move rfl t1) (calm7 (fun fs vs x y h hl => ChJ.later h hl) (by kernel_rfl) (by kernel_rfl) hj (later_refl _)) rfl
        · intro listed a W H hj hl hd
          have t8 : a.tmps.getD 8 undef = .int .i64 (k : Int) := (H.old 8 (by kernel_rfl)).trans rfl
          exact step7_value (i := 10) rfl rfl (run_op_move rfl t8) (calm7 (fun fs vs x y h hl => ChJ.later h hl) (by kernel_rfl) (by kernel_rfl) hj (later_refl _)) rfl
        · intro listed a W H hj hl hd
          have t31 : a.tmps.getD 31 undef = .int .i64 x := H.get 9 31 (by kernel_rfl) (dep_of hd 9 (by kernel_rfl)) (fun _ h => by cases h)
          have t32 : a.tmps.getD 32 undef = .int .i64 (k : Int) := H.get 10 32 (by kernel_rfl) (dep_of hd 10 (by kernel_rfl)) (fun _ h => by cases h)
          exact step7_value (i := 11) rfl rfl (run_op_bin rfl t31 t32 (bin_shr _ _ _ x k k63 r1 HR1.out)) (calm7 (fun fs vs x y h hl => ChJ.later h hl) (by kernel_rfl) (by kernel_rfl) hj (later_refl _)) rfl
        · intro listed a W H hj hl hd
          have t33 : a.tmps.getD 33 undef = .int .i64 r1 := H.get 11 33 (by kernel_rfl) (dep_of hd 11 (by kernel_rfl)) (fun _ h => by cases h)
          exact step7_value (i := 12) rfl rfl (run_op_bin rfl t33 rfl (bin_and _ _ _ r1 1 β HBT.out)) (calm7 (fun fs vs x y h hl => ChJ.later h hl) (by kernel_rfl) (by kernel_rfl) hj (later_refl _)) rfl
        · intro listed a W H hj hl hd
          have t34 : a.tmps.getD 34 undef = .int .i64 β := H.get 12 34 (by kernel_rfl) (dep_of hd 12 (by kernel_rfl)) (fun _ h => by cases h)
          exact step7_value (i := 13) rfl rfl (run_op_bin rfl t34 rfl (bin_eql _ _ _ β 1 bi HBQ.out)) (calm7 (fun fs vs x y h hl => ChJ.later h hl) (by kernel_rfl) (by kernel_rfl) hj (later_refl _)) rfl
        · intro listed a W H hj hl hd
          have t35 : a.tmps.getD 35 undef = .bool bi := H.get 13 35 (by kernel_rfl) (dep_of hd 13 (by kernel_rfl)) (fun _ h => by cases h)
          have f0 : (flags [6, 7, 14, 15, 16, 17] listed).getD 2 false = false := hl
          have f1 : (flags [6, 7, 14, 15, 16, 17] listed).getD 3 false = false := H.notyets 6 hl (by kernel_rfl)
          have hk9 := hj.build2 f0 f1 #[.bool bi] rfl
          rw [← flags_put (m := 14) 2 rfl (by decide), ← slots_at (a := a) (d := 36) 2 rfl (by decide) (by rw [H.size]; exact of_decide_eq_true (by kernel_rfl))] at hk9
          exact step7_value (i := 14) rfl rfl (run_op_build rfl (by simp only [List.map_toArray, List.map_cons, List.map_nil]; show (Instr.buildSlice 23 1 #[(0, a.tmps.getD 35 undef)]).run _ _ = _; rw [t35]; exact run_build_bool _ W)) hk9 trivial
        · intro listed a W H hj hl hd
          have t30 : a.tmps.getD 30 undef = .slice A6 k c6 := H.get 8 30 (by kernel_rfl) (dep_of hd 8 (by kernel_rfl)) (fun _ h => by cases h)
          have d36 : listed.getD 14 false = true := dep_of hd 14 (by kernel_rfl)
          have f0 : (flags [6, 7, 14, 15, 16, 17] listed).getD 2 false = true := done_true (dep_of hd 14 (by kernel_rfl))
          have f1 : (flags [6, 7, 14, 15, 16, 17] listed).getD 3 false = false := hl
          have f4 : (flags [6, 7, 14, 15, 16, 17] listed).getD 5 false = false := H.notyets 6 hl (by kernel_rfl)
          obtain ⟨A9, c9, W9, hr, hk9⟩ := hj.append2 f0 f1 f4
          rw [← flags_put (m := 15) 3 rfl (by decide), ← slots_at (a := a) (d := 37) 3 rfl (by decide) (by rw [H.size]; exact of_decide_eq_true (by kernel_rfl))] at hk9
          exact step7_value (i := 15) rfl rfl (run_op_append rfl t30 rfl hr) hk9 trivial
        · intro listed a W H hj hl hd
          have d29 : listed.getD 7 false = true := dep_of hd 7 (by kernel_rfl)
          have hk9 := hj.assign1
          rw [← flags_put (m := 16) 4 rfl (by decide), ← slots_at (a := a) (d := 5) 4 rfl (by decide) (by rw [H.size]; exact of_decide_eq_true (by kernel_rfl))] at hk9
          exact step7_value (i := 16) rfl rfl (run_op_assign rfl rfl) hk9 trivial
        · intro listed a W H hj hl hd
          have d37 : listed.getD 15 false = true := dep_of hd 15 (by kernel_rfl)
          have hk9 := hj.assign2
          rw [← flags_put (m := 17) 5 rfl (by decide), ← slots_at (a := a) (d := 6) 5 rfl (by decide) (by rw [H.size]; exact of_decide_eq_true (by kernel_rfl))] at hk9
          exact step7_value (i := 17) rfl rfl (run_op_assign rfl rfl) hk9 trivial
      · intro a WC hdef hsz hw hall hact
        obtain ⟨u, hu⟩ : ∃ u : Nat → Value, ∀ k, a.tmps.getD k undef = u k := ⟨_, fun _ => rfl⟩
        simp only [hu] at hact
        have hact' : a = ([22, 23, 24, 25, 26, 27, 28, 29, 30, 31, 32, 33, 34, 35, 36, 37, 5, 6] : List Nat).foldl (fun b k => b.put (some k) (u k)) _ := hact
        simp only [List.foldl] at hact'
        simp only [Act.put, List.setIfInBounds_toArray, List.set_cons_succ, List.set_cons_zero] at hact'
        have HAC := Lib.hid hact'
        have HJX := Lib.hid hw
        clear hact hact' hall hdef hsz hw
        rw [HAC.out]
        obtain ⟨B5, d5, B6, d6, e4, e5, e1, e3, r1_, r2_, hd2⟩ := HJX.out.behind rfl rfl rfl rfl
        have g5 : u 5 = .slice B5 (k + 1) d5 := by rw [← hu]; exact e4
        have g6 : u 6 = .slice B6 (k + 1) d6 := by rw [← hu]; exact e5
        have BC : Hid (Below w.heap.size w WC) := BE.out.trans (HJX.out.turn.below (fun b hb => by
          rcases hb with hb | hb
          · exact Row.blk_ge PE.out.a b hb
          · exact Row.blk_ge PE.out.b b hb) BE.out.size)
        have PC : Hid (Pair WC w.heap.size B5 (k + 1) d5 (xs.take (k + 1)) B6 (k + 1) d6 (cs.take (k + 1))) := by rw [HXN.out, HCN.out]; exact ⟨r1_, r2_⟩
        rw [g5, g6]
        clear HJX HOK PE BE HEL HWE hu e4 e5 e1 e3 r1_ r2_ hd2 g5 g6 HAC HXN HV HY HKEEP hc hblk HAE HCN
        go_wp2_with (first | (simp only [HR1.out, HBT.out]) | (simp only [HMB.out]))
        have hw2 : wrap64 (m2 : Int) = (m2 : Int) := by unfold wrap64; omega
        go_roundw
        case rel => exact ⟨k + 1, m2, B5, d5, B6, d6, rfl, rfl, (by rw [hw2]), by go_num, by omega, by omega, HMN, PC, BC⟩
        case measure => simp [intOf]; omega
    · skip
      obtain rfl : k = n := by omega
      rw [List.take_of_length_le (by rw [HXL.out]; exact Nat.le_refl _), List.take_of_length_le (by rw [HCL.out]; exact Nat.le_refl _)] at HP
      clear HX HC HA HAL
      obtain ⟨o, HO⟩ : ∃ o, Hid (orderN xs cs k = o) := ⟨_, rfl⟩
      have HOL : Hid (o.length = m) := by show _ = _; rw [← HO.out, order_many]; exact HM.out
      have HOI : Hid (orderI xs cs = oI o) := by show _ = _; rw [← HO.out]; unfold orderI orderW; rw [if_pos (HXL.out.trans HCL.out.symm), HXL.out]; rfl
      have HKX : Hid (∀ j, keyW xs j = xs.getD j 0) := fun j => by
        have := HXS.out j
        exact worn_id (by omega) (by omega)
      clear HM
      go_wp2_with fail
      refine (worder_any _ k _ xs _ k _ cs _ (by omega) (by omega) HP.out.two).mono ?_
      rw [HOI.out]
      rintro e W1 ⟨A1, n1, c1, rfl, hr1, hb1⟩
      have hn1 : m = n1 := by rw [← HOL.out, ← oI_len]; exact hr1.out.len
      subst hn1
      have B1 := Lib.hid (below_chain HB.out hb1.out)
      have P1 := Lib.hid (HP.out.two.since hb1.out)
      have O1 := Lib.hid hr1.out.lie
      clear hr1 hb1 HB HP HOI
      by_cases h0 : m = 0
      · subst h0
        have HNO : Hid (∀ j, j < k → isC cs j = false) := by rw [← (order_none (ws := xs))]; rw [HO.out]; exact List.eq_nil_of_length_eq_zero HOL.out
        have HLE : Hid (leastW xs cs = -1) := (leastW_of HXL.out HCL.out).trans (least_none (order_none.2 HNO.out))
        have HGR : Hid (greatW xs cs = -1) := by
          show _ = _
          unfold greatW
          rw [if_pos (HXL.out.trans HCL.out.symm), HXL.out]
          exact great_none (order_none.2 HNO.out)
        have HSP : Hid (spreadW xs cs = 0) := spread_none HLE.out
        go_wp2_with fail
        refine (wleast_any _ k _ xs _ k _ cs _ (by omega) (by omega) P1.out).mono ?_
        rw [HLE.out]
        rintro e W2 ⟨rfl, hb2⟩
        have B2 := Lib.hid (below_chain B1.out hb2.out)
        have P2 := Lib.hid (P1.out.since hb2.out)
        clear hb2 B1 P1 O1
        go_wp2_with fail
        refine (wgreat_any _ k _ xs _ k _ cs _ (by omega) (by omega) P2.out).mono ?_
        rw [HGR.out]
        rintro e W3 ⟨rfl, hb3⟩
        have B3 := Lib.hid (below_chain B2.out hb3.out)
        have P3 := Lib.hid (P2.out.since hb3.out)
        clear hb3 B2 P2
        go_wp2_with fail
        refine (wspread_any _ k _ xs _ k _ cs _ (by omega) (by omega) P3.out).mono ?_
        rw [HSP.out]
        rintro e W4 ⟨rfl, hb4⟩
        have B4 := Lib.hid (below_chain B3.out hb4.out)
        clear hb4 B3 P3
        go_wp2_with fail
        refine (wawake_any _).mono ?_
        rintro e W5 ⟨rfl, hb5⟩
        have B5 := Lib.hid (below_chain B4.out hb5.out)
        go_wp2_with fail
        go_ret
        exact ⟨rfl, B5⟩
      have hm1 : 1 ≤ m := by omega
      have hmi : (1 : Int) ≤ (m : Int) := by omega
      have hm1' : ¬ (m : Int) = 0 := by omega
      obtain ⟨adw, hadw, _, _⟩ := int_at P1.out.a (show 0 < k by omega)
      obtain ⟨adc, hadc, _, _⟩ := bool_at P1.out.b (show 0 < k by omega)
      obtain ⟨ado, hado, _, _⟩ := int_at O1.out (show 0 < m by omega)
      subst hadw hadc hado
      have CW : Hid (∀ W, Two2 W (some adw) k xs (some adc) k cs → ∀ j, j < k → W.cell? (adw.add j) = some (.int .i64 (xs.getD j 0))) := fun W h j hj => by
        obtain ⟨ad, e, _, h1⟩ := int_at h.a hj
        obtain rfl := Option.some.inj e
        exact h1
      have CC : Hid (∀ W, Two2 W (some adw) k xs (some adc) k cs → ∀ j, j < k → W.cell? (adc.add j) = some (.bool (isC cs j))) := fun W h j hj => by
        obtain ⟨ad, e, _, h1⟩ := bool_at h.b hj
        obtain rfl := Option.some.inj e
        exact h1
      have CO : Hid (∀ W, intK.Lie W W.heap.size (some ado) m (oI o) → ∀ j, j < m → W.cell? (ado.add j) = some (.int .i64 ((o.getD j 0 : Nat) : Int))) := fun W h j hj => by
        obtain ⟨ad, e, _, h1⟩ := int_at h hj
        obtain rfl := Option.some.inj e
        rw [oI_at (by rw [HOL.out]; exact hj)] at h1
        exact h1
      have ML : Hid (∀ j, j < m → o.getD j 0 < k ∧ isC cs (o.getD j 0) = true) := fun j hj => by
        have := order_at (ws := xs) (cs := cs) (n := k) (i := j) (by rw [HO.out, HOL.out]; exact hj)
        rw [HO.out] at this; exact this
      go_wp2_with fail
      go_loopw [10] (fun t10 wr => ∃ (i : Nat), t10 = .int .i64 i ∧ i ≤ m ∧ Hid (Two2 wr (some adw) k xs (some adc) k cs) ∧ Hid (intK.Lie wr wr.heap.size (some ado) m (oI o)) ∧ Hid (Below w.heap.size w wr)) (fun t10 _ => m - (intOf t10).toNat)
      case atStart => exact ⟨0, rfl, Nat.zero_le _, P1, O1, B1⟩
      case round =>
        clear P1 O1 B1
        obtain ⟨Wb, rfl⟩ : ∃ Wb, Wb = wr := ⟨_, rfl⟩
        obtain ⟨i, rfl, hi, HP, HO1, HB⟩ := hrel
        have i0 : (0 : Int) ≤ (i : Int) := by omega
        by_cases hlt : i < m
        · skip
          have i1 : (i : Int) < (m : Int) := by omega
          go_wp2_with fail
          obtain ⟨WD, HWD⟩ : ∃ W, Hid (W = Wb.drew) := ⟨_, rfl⟩
          have HDL : Hid (Later Wb WD) := by rw [HWD.out]; exact (Below.refl _ _).drew
          have PD := Lib.hid (HP.out.since HDL.out)
          have OD := Lib.hid (HO1.out.since HDL.out)
          have BD := Lib.hid (below_chain HB.out HDL.out)
          clear HP HO1 HB
          obtain ⟨hek, hec⟩ := ML.out i hlt
          have g1 := CO.out _ OD.out i hlt
          obtain ⟨e, HE⟩ : ∃ e, Hid (o.getD i 0 = e) := ⟨_, rfl⟩
          rw [HE.out] at hek hec g1
          have g2 := CW.out _ PD.out e hek
          have g3 := CC.out _ PD.out e hek
          rw [hec] at g3
          obtain ⟨y, HY⟩ : ∃ y, Hid (xs.getD e 0 = y) := ⟨_, rfl⟩
          rw [HY.out] at g2
          have D1 : decide ((e : Int) < 0) = false := decide_eq_false (by omega)
          have D2 : decide ((k : Int) ≤ (e : Int)) = false := decide_eq_false (by omega)
          clear hec
          by_cases hi0 : i = 0
          · have D0 : decide ((0 : Int) < (i : Int)) = false := decide_eq_false (by omega)
            clear hi0
            refine region_of_steps7 (by kernel_rfl) [some (.slice (some ado) m c1), some (.int .i64 (i : Int)), some (.pointer (some (ado.add i))), some (.int .i64 (e : Int)), some (.bool false), some (.bool false), some (.slice (some ado) m c1), some (.int .i64 (i : Int)), some (.pointer (some (ado.add i))), some (.int .i64 (e : Int)), some (.slice (some adw) k c5), some (.int .i64 (k : Int)), some (.bool false), some (.bool false), some (.bool false), some (.slice (some adc) k c6), some (.slice (some ado) m c1), some (.int .i64 (i : Int)), some (.pointer (some (ado.add i))), some (.int .i64 (e : Int)), some (.pointer (some (adc.add e))), some (.bool true), some (.bool false), some (.bool false), some (.bool false), some (.int .i64 (i : Int)), some (.bool false), some (.bool false), some undef, some undef, some undef, some undef, some undef, some undef, some undef, some undef, some undef, some undef, some undef, some undef, some undef, some undef, some undef, some undef, some undef, some undef, some undef, some undef, some undef, some undef, some undef, some undef, some undef, some undef, some undef, some undef, some undef, some undef, some undef, some undef, some undef, some undef, some undef, some undef, some undef, some undef, some undef, some undef, some undef, some undef, some undef, some undef, some undef, some undef, some (.bool false), some (.bool false)] [] [] (LaterJ WD) (by kernel_rfl) (by kernel_rfl) (by rw [← HWD.out]; exact Below.refl _ _) ?_ ?_
            · refine Steps7.cons ?_ (Steps7.cons ?_ (Steps7.cons ?_ (Steps7.cons ?_ (Steps7.cons ?_ (Steps7.cons ?_ (Steps7.cons ?_ (Steps7.cons ?_ (Steps7.cons ?_ (Steps7.cons ?_ (Steps7.cons ?_ (Steps7.cons ?_ (Steps7.cons ?_ (Steps7.cons ?_ (Steps7.cons ?_ (Steps7.cons ?_ (Steps7.cons ?_ (Steps7.cons ?_ (Steps7.cons ?_ (Steps7.cons ?_ (Steps7.cons ?_ (Steps7.cons ?_ (Steps7.cons ?_ (Steps7.cons ?_ (Steps7.cons ?_ (Steps7.cons ?_ (Steps7.cons ?_ (Steps7.cons ?_ (Steps7.cons ?_ (Steps7.cons ?_ (Steps7.cons ?_ (Steps7.cons ?_ (Steps7.cons ?_ (Steps7.cons ?_ (Steps7.cons ?_ (Steps7.cons ?_ (Steps7.cons ?_ (Steps7.cons ?_ (Steps7.cons ?_ (Steps7.cons ?_ (Steps7.cons ?_ (Steps7.cons ?_ (Steps7.cons ?_ (Steps7.cons ?_ (Steps7.cons ?_ (Steps7.cons ?_ (Steps7.cons ?_ (Steps7.cons ?_ (Steps7.cons ?_ (Steps7.cons ?_ (Steps7.cons ?_ (Steps7.cons ?_ (Steps7.cons ?_ (Steps7.cons ?_ (Steps7.cons ?_ (Steps7.cons ?_ (Steps7.cons ?_ (Steps7.cons ?_ (Steps7.cons ?_ (Steps7.cons ?_ (Steps7.cons ?_ (Steps7.cons ?_ (Steps7.cons ?_ (Steps7.cons ?_ (Steps7.cons ?_ (Steps7.cons ?_ (Steps7.cons ?_ (Steps7.cons ?_ (Steps7.cons ?_ (Steps7.cons ?_ (Steps7.cons ?_ (Steps7.cons ?_ (Steps7.cons ?_ (Steps7.cons ?_ (Steps7.cons ?_ (Steps7.cons ?_ (Steps7.nil))))))))))))))))))))))))))))))))))))))))))))))))))))))))))))))))))))))))))))
              · intro listed a W H hj hl hd
                have t9 : a.tmps.getD 9 undef = .slice (some ado) m c1 := (H.old 9 (by kernel_rfl)).trans rfl
                exact step7_value (i := 0) rfl rfl (run_op_move rfl t9) (calm7 laterJ_later (by kernel_rfl) (by kernel_rfl) hj (later_refl _)) rfl
              · intro listed a W H hj hl hd
                have t10 : a.tmps.getD 10 undef = .int .i64 (i : Int) := (H.old 10 (by kernel_rfl)).trans rfl
                exact step7_value (i := 1) rfl rfl (run_op_move rfl t10) (calm7 laterJ_later (by kernel_rfl) (by kernel_rfl) hj (later_refl _)) rfl
              · intro listed a W H hj hl hd
                have t77 : a.tmps.getD 77 undef = .slice (some ado) m c1 := H.get 0 77 (by kernel_rfl) (dep_of hd 0 (by kernel_rfl)) (fun _ h => by cases h)
                have t78 : a.tmps.getD 78 undef = .int .i64 (i : Int) := H.get 1 78 (by kernel_rfl) (dep_of hd 1 (by kernel_rfl)) (fun _ h => by cases h)
                exact step7_value (i := 2) rfl rfl (run_op_index rfl t77 t78 (run_index_i ado m c1 i hlt W)) (calm7 laterJ_later (by kernel_rfl) (by kernel_rfl) hj (later_refl _)) rfl
              · intro listed a W H hj hl hd
                have t79 : a.tmps.getD 79 undef = .pointer (some (ado.add i)) := H.get 2 79 (by kernel_rfl) (dep_of hd 2 (by kernel_rfl)) (fun _ h => by cases h)
                exact step7_value (i := 3) rfl rfl (run_op_load rfl t79 (run_load_int _ _ W (later_cell hj g1))) (calm7 laterJ_later (by kernel_rfl) (by kernel_rfl) hj (later_refl _)) rfl
              · intro listed a W H hj hl hd
                have t80 : a.tmps.getD 80 undef = .int .i64 (e : Int) := H.get 3 80 (by kernel_rfl) (dep_of hd 3 (by kernel_rfl)) (fun _ h => by cases h)
                exact step7_value (i := 4) rfl rfl (run_op_bin rfl t80 rfl (bin_lss _ _ _ (e : Int) 0 false D1)) (calm7 laterJ_later (by kernel_rfl) (by kernel_rfl) hj (later_refl _)) rfl
              · intro listed a W H hj hl hd
                have t81 : a.tmps.getD 81 undef = .bool false := H.get 4 81 (by kernel_rfl) (dep_of hd 4 (by kernel_rfl)) (fun _ h => by cases h)
                exact step7_value (i := 5) rfl rfl (run_op_move rfl t81) (calm7 laterJ_later (by kernel_rfl) (by kernel_rfl) hj (later_refl _)) rfl
              · intro listed a W H hj hl hd
                have t82 : a.tmps.getD 82 undef = .bool false := H.get 5 82 (by kernel_rfl) (dep_of hd 5 (by kernel_rfl)) (fun _ h => by cases h)
                have t9 : a.tmps.getD 9 undef = .slice (some ado) m c1 := (H.old 9 (by kernel_rfl)).trans rfl
                exact step7_value (i := 6) rfl (wanted_at (j := 5) (d := 82) (b := false) rfl (by kernel_rfl) t82) (run_op_move rfl t9) (calm7 laterJ_later (by kernel_rfl) (by kernel_rfl) hj (later_refl _)) rfl
              · intro listed a W H hj hl hd
                have t82 : a.tmps.getD 82 undef = .bool false := H.get 5 82 (by kernel_rfl) (dep_of hd 5 (by kernel_rfl)) (fun _ h => by cases h)
                have t10 : a.tmps.getD 10 undef = .int .i64 (i : Int) := (H.old 10 (by kernel_rfl)).trans rfl
                exact step7_value (i := 7) rfl (wanted_at (j := 5) (d := 82) (b := false) rfl (by kernel_rfl) t82) (run_op_move rfl t10) (calm7 laterJ_later (by kernel_rfl) (by kernel_rfl) hj (later_refl _)) rfl
              · intro listed a W H hj hl hd
                have t82 : a.tmps.getD 82 undef = .bool false := H.get 5 82 (by kernel_rfl) (dep_of hd 5 (by kernel_rfl)) (fun _ h => by cases h)
                have t83 : a.tmps.getD 83 undef = .slice (some ado) m c1 := H.get 6 83 (by kernel_rfl) (dep_of hd 6 (by kernel_rfl)) (fun _ h => by cases h)
                have t84 : a.tmps.getD 84 undef = .int .i64 (i : Int) := H.get 7 84 (by kernel_rfl) (dep_of hd 7 (by kernel_rfl)) (fun _ h => by cases h)
                exact step7_value (i := 8) rfl (wanted_at (j := 5) (d := 82) (b := false) rfl (by kernel_rfl) t82) (run_op_index rfl t83 t84 (run_index_i ado m c1 i hlt W)) (calm7 laterJ_later (by kernel_rfl) (by kernel_rfl) hj (later_refl _)) rfl
              · intro listed a W H hj hl hd
                have t82 : a.tmps.getD 82 undef = .bool false := H.get 5 82 (by kernel_rfl) (dep_of hd 5 (by kernel_rfl)) (fun _ h => by cases h)
                have t85 : a.tmps.getD 85 undef = .pointer (some (ado.add i)) := H.get 8 85 (by kernel_rfl) (dep_of hd 8 (by kernel_rfl)) (fun _ h => by cases h)
                exact step7_value (i := 9) rfl (wanted_at (j := 5) (d := 82) (b := false) rfl (by kernel_rfl) t82) (run_op_load rfl t85 (run_load_int _ _ W (later_cell hj g1))) (calm7 laterJ_later (by kernel_rfl) (by kernel_rfl) hj (later_refl _)) rfl
              · intro listed a W H hj hl hd
                have t82 : a.tmps.getD 82 undef = .bool false := H.get 5 82 (by kernel_rfl) (dep_of hd 5 (by kernel_rfl)) (fun _ h => by cases h)
                have t5 : a.tmps.getD 5 undef = .slice (some adw) k c5 := (H.old 5 (by kernel_rfl)).trans rfl
                exact step7_value (i := 10) rfl (wanted_at (j := 5) (d := 82) (b := false) rfl (by kernel_rfl) t82) (run_op_move rfl t5) (calm7 laterJ_later (by kernel_rfl) (by kernel_rfl) hj (later_refl _)) rfl
              · intro listed a W H hj hl hd
                have t82 : a.tmps.getD 82 undef = .bool false := H.get 5 82 (by kernel_rfl) (dep_of hd 5 (by kernel_rfl)) (fun _ h => by cases h)
                have t87 : a.tmps.getD 87 undef = .slice (some adw) k c5 := H.get 10 87 (by kernel_rfl) (dep_of hd 10 (by kernel_rfl)) (fun _ h => by cases h)
                exact step7_value (i := 11) rfl (wanted_at (j := 5) (d := 82) (b := false) rfl (by kernel_rfl) t82) (run_op_len Try.underlying22 rfl t87) (calm7 laterJ_later (by kernel_rfl) (by kernel_rfl) hj (later_refl _)) rfl
              · intro listed a W H hj hl hd
                have t82 : a.tmps.getD 82 undef = .bool false := H.get 5 82 (by kernel_rfl) (dep_of hd 5 (by kernel_rfl)) (fun _ h => by cases h)
                have t86 : a.tmps.getD 86 undef = .int .i64 (e : Int) := H.get 9 86 (by kernel_rfl) (dep_of hd 9 (by kernel_rfl)) (fun _ h => by cases h)
                have t88 : a.tmps.getD 88 undef = .int .i64 (k : Int) := H.get 11 88 (by kernel_rfl) (dep_of hd 11 (by kernel_rfl)) (fun _ h => by cases h)
                exact step7_value (i := 12) rfl (wanted_at (j := 5) (d := 82) (b := false) rfl (by kernel_rfl) t82) (run_op_bin rfl t86 t88 (bin_geq _ _ _ (e : Int) (k : Int) false D2)) (calm7 laterJ_later (by kernel_rfl) (by kernel_rfl) hj (later_refl _)) rfl
              · intro listed a W H hj hl hd
                have t82 : a.tmps.getD 82 undef = .bool false := H.get 5 82 (by kernel_rfl) (dep_of hd 5 (by kernel_rfl)) (fun _ h => by cases h)
                have t89 : a.tmps.getD 89 undef = .bool false := H.get 12 89 (by kernel_rfl) (dep_of hd 12 (by kernel_rfl)) (fun _ h => by cases h)
                exact step7_value (i := 13) rfl rfl (run_op_pickF rfl t82 t89) (calm7 laterJ_later (by kernel_rfl) (by kernel_rfl) hj (later_refl _)) rfl
              · intro listed a W H hj hl hd
                have t90 : a.tmps.getD 90 undef = .bool false := H.get 13 90 (by kernel_rfl) (dep_of hd 13 (by kernel_rfl)) (fun _ h => by cases h)
                exact step7_value (i := 14) rfl rfl (run_op_move rfl t90) (calm7 laterJ_later (by kernel_rfl) (by kernel_rfl) hj (later_refl _)) rfl
              · intro listed a W H hj hl hd
                have t91 : a.tmps.getD 91 undef = .bool false := H.get 14 91 (by kernel_rfl) (dep_of hd 14 (by kernel_rfl)) (fun _ h => by cases h)
                have t6 : a.tmps.getD 6 undef = .slice (some adc) k c6 := (H.old 6 (by kernel_rfl)).trans rfl
                exact step7_value (i := 15) rfl (wanted_at (j := 14) (d := 91) (b := false) rfl (by kernel_rfl) t91) (run_op_move rfl t6) (calm7 laterJ_later (by kernel_rfl) (by kernel_rfl) hj (later_refl _)) rfl
              · intro listed a W H hj hl hd
                have t91 : a.tmps.getD 91 undef = .bool false := H.get 14 91 (by kernel_rfl) (dep_of hd 14 (by kernel_rfl)) (fun _ h => by cases h)
                have t9 : a.tmps.getD 9 undef = .slice (some ado) m c1 := (H.old 9 (by kernel_rfl)).trans rfl
                exact step7_value (i := 16) rfl (wanted_at (j := 14) (d := 91) (b := false) rfl (by kernel_rfl) t91) (run_op_move rfl t9) (calm7 laterJ_later (by kernel_rfl) (by kernel_rfl) hj (later_refl _)) rfl
              · intro listed a W H hj hl hd
                have t91 : a.tmps.getD 91 undef = .bool false := H.get 14 91 (by kernel_rfl) (dep_of hd 14 (by kernel_rfl)) (fun _ h => by cases h)
                have t10 : a.tmps.getD 10 undef = .int .i64 (i : Int) := (H.old 10 (by kernel_rfl)).trans rfl
                exact step7_value (i := 17) rfl (wanted_at (j := 14) (d := 91) (b := false) rfl (by kernel_rfl) t91) (run_op_move rfl t10) (calm7 laterJ_later (by kernel_rfl) (by kernel_rfl) hj (later_refl _)) rfl
              · intro listed a W H hj hl hd
                have t91 : a.tmps.getD 91 undef = .bool false := H.get 14 91 (by kernel_rfl) (dep_of hd 14 (by kernel_rfl)) (fun _ h => by cases h)
                have t93 : a.tmps.getD 93 undef = .slice (some ado) m c1 := H.get 16 93 (by kernel_rfl) (dep_of hd 16 (by kernel_rfl)) (fun _ h => by cases h)
                have t94 : a.tmps.getD 94 undef = .int .i64 (i : Int) := H.get 17 94 (by kernel_rfl) (dep_of hd 17 (by kernel_rfl)) (fun _ h => by cases h)
                exact step7_value (i := 18) rfl (wanted_at (j := 14) (d := 91) (b := false) rfl (by kernel_rfl) t91) (run_op_index rfl t93 t94 (run_index_i ado m c1 i hlt W)) (calm7 laterJ_later (by kernel_rfl) (by kernel_rfl) hj (later_refl _)) rfl
              · intro listed a W H hj hl hd
                have t91 : a.tmps.getD 91 undef = .bool false := H.get 14 91 (by kernel_rfl) (dep_of hd 14 (by kernel_rfl)) (fun _ h => by cases h)
                have t95 : a.tmps.getD 95 undef = .pointer (some (ado.add i)) := H.get 18 95 (by kernel_rfl) (dep_of hd 18 (by kernel_rfl)) (fun _ h => by cases h)
                exact step7_value (i := 19) rfl (wanted_at (j := 14) (d := 91) (b := false) rfl (by kernel_rfl) t91) (run_op_load rfl t95 (run_load_int _ _ W (later_cell hj g1))) (calm7 laterJ_later (by kernel_rfl) (by kernel_rfl) hj (later_refl _)) rfl
              · intro listed a W H hj hl hd
                have t91 : a.tmps.getD 91 undef = .bool false := H.get 14 91 (by kernel_rfl) (dep_of hd 14 (by kernel_rfl)) (fun _ h => by cases h)
                have t92 : a.tmps.getD 92 undef = .slice (some adc) k c6 := H.get 15 92 (by kernel_rfl) (dep_of hd 15 (by kernel_rfl)) (fun _ h => by cases h)
                have t96 : a.tmps.getD 96 undef = .int .i64 (e : Int) := H.get 19 96 (by kernel_rfl) (dep_of hd 19 (by kernel_rfl)) (fun _ h => by cases h)
                exact step7_value (i := 20) rfl (wanted_at (j := 14) (d := 91) (b := false) rfl (by kernel_rfl) t91) (run_op_index rfl t92 t96 (run_index_b adc k c6 e hek W)) (calm7 laterJ_later (by kernel_rfl) (by kernel_rfl) hj (later_refl _)) rfl
              · intro listed a W H hj hl hd
                have t91 : a.tmps.getD 91 undef = .bool false := H.get 14 91 (by kernel_rfl) (dep_of hd 14 (by kernel_rfl)) (fun _ h => by cases h)
                have t97 : a.tmps.getD 97 undef = .pointer (some (adc.add e)) := H.get 20 97 (by kernel_rfl) (dep_of hd 20 (by kernel_rfl)) (fun _ h => by cases h)
                exact step7_value (i := 21) rfl (wanted_at (j := 14) (d := 91) (b := false) rfl (by kernel_rfl) t91) (run_op_load rfl t97 (run_load_bool _ _ W (later_cell hj g3))) (calm7 laterJ_later (by kernel_rfl) (by kernel_rfl) hj (later_refl _)) rfl
              · intro listed a W H hj hl hd
                have t91 : a.tmps.getD 91 undef = .bool false := H.get 14 91 (by kernel_rfl) (dep_of hd 14 (by kernel_rfl)) (fun _ h => by cases h)
                have t98 : a.tmps.getD 98 undef = .bool true := H.get 21 98 (by kernel_rfl) (dep_of hd 21 (by kernel_rfl)) (fun _ h => by cases h)
                exact step7_value (i := 22) rfl (wanted_at (j := 14) (d := 91) (b := false) rfl (by kernel_rfl) t91) (run_op_not rfl t98) (calm7 laterJ_later (by kernel_rfl) (by kernel_rfl) hj (later_refl _)) rfl
              · intro listed a W H hj hl hd
                have t91 : a.tmps.getD 91 undef = .bool false := H.get 14 91 (by kernel_rfl) (dep_of hd 14 (by kernel_rfl)) (fun _ h => by cases h)
                have t99 : a.tmps.getD 99 undef = .bool false := H.get 22 99 (by kernel_rfl) (dep_of hd 22 (by kernel_rfl)) (fun _ h => by cases h)
                exact step7_value (i := 23) rfl rfl (run_op_pickF rfl t91 t99) (calm7 laterJ_later (by kernel_rfl) (by kernel_rfl) hj (later_refl _)) rfl
              · intro listed a W H hj hl hd
                have t100 : a.tmps.getD 100 undef = .bool false := H.get 23 100 (by kernel_rfl) (dep_of hd 23 (by kernel_rfl)) (fun _ h => by cases h)
                exact step7_value (i := 24) rfl rfl (run_op_move rfl t100) (calm7 laterJ_later (by kernel_rfl) (by kernel_rfl) hj (later_refl _)) rfl
              · intro listed a W H hj hl hd
                have t101 : a.tmps.getD 101 undef = .bool false := H.get 24 101 (by kernel_rfl) (dep_of hd 24 (by kernel_rfl)) (fun _ h => by cases h)
                have t10 : a.tmps.getD 10 undef = .int .i64 (i : Int) := (H.old 10 (by kernel_rfl)).trans rfl
                exact step7_value (i := 25) rfl (wanted_at (j := 24) (d := 101) (b := false) rfl (by kernel_rfl) t101) (run_op_move rfl t10) (calm7 laterJ_later (by kernel_rfl) (by kernel_rfl) hj (later_refl _)) rfl
              · intro listed a W H hj hl hd
                have t101 : a.tmps.getD 101 undef = .bool false := H.get 24 101 (by kernel_rfl) (dep_of hd 24 (by kernel_rfl)) (fun _ h => by cases h)
                have t102 : a.tmps.getD 102 undef = .int .i64 (i : Int) := H.get 25 102 (by kernel_rfl) (dep_of hd 25 (by kernel_rfl)) (fun _ h => by cases h)
                exact step7_value (i := 26) rfl (wanted_at (j := 24) (d := 101) (b := false) rfl (by kernel_rfl) t101) (run_op_bin rfl t102 rfl (bin_gtr _ _ _ (i : Int) 0 false D0)) (calm7 laterJ_later (by kernel_rfl) (by kernel_rfl) hj (later_refl _)) rfl
              · intro listed a W H hj hl hd
                have t101 : a.tmps.getD 101 undef = .bool false := H.get 24 101 (by kernel_rfl) (dep_of hd 24 (by kernel_rfl)) (fun _ h => by cases h)
                have t103 : a.tmps.getD 103 undef = .bool false := H.get 26 103 (by kernel_rfl) (dep_of hd 26 (by kernel_rfl)) (fun _ h => by cases h)
                exact step7_value (i := 27) rfl (wanted_at (j := 24) (d := 101) (b := false) rfl (by kernel_rfl) t101) (run_op_move rfl t103) (calm7 laterJ_later (by kernel_rfl) (by kernel_rfl) hj (later_refl _)) rfl
              · intro listed a W H hj hl hd
                have t104 : a.tmps.getD 104 undef = .bool false := H.get 27 104 (by kernel_rfl) (dep_of hd 27 (by kernel_rfl)) (fun _ h => by cases h)
                exact step7_skip (i := 28) rfl (unwanted_at (j := 27) (d := 104) (b := true) (c := false) rfl (by kernel_rfl) t104 rfl) (calm7 laterJ_later (by kernel_rfl) (by kernel_rfl) hj (later_refl _)) rfl
              · intro listed a W H hj hl hd
                have t104 : a.tmps.getD 104 undef = .bool false := H.get 27 104 (by kernel_rfl) (dep_of hd 27 (by kernel_rfl)) (fun _ h => by cases h)
                exact step7_skip (i := 29) rfl (unwanted_at (j := 27) (d := 104) (b := true) (c := false) rfl (by kernel_rfl) t104 rfl) (calm7 laterJ_later (by kernel_rfl) (by kernel_rfl) hj (later_refl _)) rfl
              · intro listed a W H hj hl hd
                have t104 : a.tmps.getD 104 undef = .bool false := H.get 27 104 (by kernel_rfl) (dep_of hd 27 (by kernel_rfl)) (fun _ h => by cases h)
                exact step7_skip (i := 30) rfl (unwanted_at (j := 27) (d := 104) (b := true) (c := false) rfl (by kernel_rfl) t104 rfl) (calm7 laterJ_later (by kernel_rfl) (by kernel_rfl) hj (later_refl _)) rfl
              · intro listed a W H hj hl hd
                have t104 : a.tmps.getD 104 undef = .bool false := H.get 27 104 (by kernel_rfl) (dep_of hd 27 (by kernel_rfl)) (fun _ h => by cases h)
                exact step7_skip (i := 31) rfl (unwanted_at (j := 27) (d := 104) (b := true) (c := false) rfl (by kernel_rfl) t104 rfl) (calm7 laterJ_later (by kernel_rfl) (by kernel_rfl) hj (later_refl _)) rfl
              · intro listed a W H hj hl hd
                have t104 : a.tmps.getD 104 undef = .bool false := H.get 27 104 (by kernel_rfl) (dep_of hd 27 (by kernel_rfl)) (fun _ h => by cases h)
                exact step7_skip (i := 32) rfl (unwanted_at (j := 27) (d := 104) (b := true) (c := false) rfl (by kernel_rfl) t104 rfl) (calm7 laterJ_later (by kernel_rfl) (by kernel_rfl) hj (later_refl _)) rfl
              · intro listed a W H hj hl hd
                have t104 : a.tmps.getD 104 undef = .bool false := H.get 27 104 (by kernel_rfl) (dep_of hd 27 (by kernel_rfl)) (fun _ h => by cases h)
                exact step7_skip (i := 33) rfl (unwanted_at (j := 27) (d := 104) (b := true) (c := false) rfl (by kernel_rfl) t104 rfl) (calm7 laterJ_later (by kernel_rfl) (by kernel_rfl) hj (later_refl _)) rfl
              · intro listed a W H hj hl hd
                have t104 : a.tmps.getD 104 undef = .bool false := H.get 27 104 (by kernel_rfl) (dep_of hd 27 (by kernel_rfl)) (fun _ h => by cases h)
                exact step7_skip (i := 34) rfl (unwanted_at (j := 27) (d := 104) (b := true) (c := false) rfl (by kernel_rfl) t104 rfl) (calm7 laterJ_later (by kernel_rfl) (by kernel_rfl) hj (later_refl _)) rfl
              · intro listed a W H hj hl hd
                have t104 : a.tmps.getD 104 undef = .bool false := H.get 27 104 (by kernel_rfl) (dep_of hd 27 (by kernel_rfl)) (fun _ h => by cases h)
                exact step7_skip (i := 35) rfl (unwanted_at (j := 27) (d := 104) (b := true) (c := false) rfl (by kernel_rfl) t104 rfl) (calm7 laterJ_later (by kernel_rfl) (by kernel_rfl) hj (later_refl _)) rfl
              · intro listed a W H hj hl hd
                have t104 : a.tmps.getD 104 undef = .bool false := H.get 27 104 (by kernel_rfl) (dep_of hd 27 (by kernel_rfl)) (fun _ h => by cases h)
                exact step7_skip (i := 36) rfl (unwanted_at (j := 27) (d := 104) (b := true) (c := false) rfl (by kernel_rfl) t104 rfl) (calm7 laterJ_later (by kernel_rfl) (by kernel_rfl) hj (later_refl _)) rfl
              · intro listed a W H hj hl hd
                have t104 : a.tmps.getD 104 undef = .bool false := H.get 27 104 (by kernel_rfl) (dep_of hd 27 (by kernel_rfl)) (fun _ h => by cases h)
                exact step7_skip (i := 37) rfl (unwanted_at (j := 27) (d := 104) (b := true) (c := false) rfl (by kernel_rfl) t104 rfl) (calm7 laterJ_later (by kernel_rfl) (by kernel_rfl) hj (later_refl _)) rfl
              · intro listed a W H hj hl hd
                have t104 : a.tmps.getD 104 undef = .bool false := H.get 27 104 (by kernel_rfl) (dep_of hd 27 (by kernel_rfl)) (fun _ h => by cases h)
                exact step7_skip (i := 38) rfl (unwanted_at (j := 27) (d := 104) (b := true) (c := false) rfl (by kernel_rfl) t104 rfl) (calm7 laterJ_later (by kernel_rfl) (by kernel_rfl) hj (later_refl _)) rfl
              · intro listed a W H hj hl hd
                have t104 : a.tmps.getD 104 undef = .bool false := H.get 27 104 (by kernel_rfl) (dep_of hd 27 (by kernel_rfl)) (fun _ h => by cases h)
                exact step7_skip (i := 39) rfl (unwanted_at (j := 27) (d := 104) (b := true) (c := false) rfl (by kernel_rfl) t104 rfl) (calm7 laterJ_later (by kernel_rfl) (by kernel_rfl) hj (later_refl _)) rfl
              · intro listed a W H hj hl hd
                have t104 : a.tmps.getD 104 undef = .bool false := H.get 27 104 (by kernel_rfl) (dep_of hd 27 (by kernel_rfl)) (fun _ h => by cases h)
                exact step7_skip (i := 40) rfl (unwanted_at (j := 27) (d := 104) (b := true) (c := false) rfl (by kernel_rfl) t104 rfl) (calm7 laterJ_later (by kernel_rfl) (by kernel_rfl) hj (later_refl _)) rfl
              · intro listed a W H hj hl hd
                have t104 : a.tmps.getD 104 undef = .bool false := H.get 27 104 (by kernel_rfl) (dep_of hd 27 (by kernel_rfl)) (fun _ h => by cases h)
                exact step7_skip (i := 41) rfl (unwanted_at (j := 27) (d := 104) (b := true) (c := false) rfl (by kernel_rfl) t104 rfl) (calm7 laterJ_later (by kernel_rfl) (by kernel_rfl) hj (later_refl _)) rfl
              · intro listed a W H hj hl hd
                have t104 : a.tmps.getD 104 undef = .bool false := H.get 27 104 (by kernel_rfl) (dep_of hd 27 (by kernel_rfl)) (fun _ h => by cases h)
                exact step7_skip (i := 42) rfl (unwanted_at (j := 27) (d := 104) (b := true) (c := false) rfl (by kernel_rfl) t104 rfl) (calm7 laterJ_later (by kernel_rfl) (by kernel_rfl) hj (later_refl _)) rfl
              · intro listed a W H hj hl hd
                have t104 : a.tmps.getD 104 undef = .bool false := H.get 27 104 (by kernel_rfl) (dep_of hd 27 (by kernel_rfl)) (fun _ h => by cases h)
                exact step7_skip (i := 43) rfl (unwanted_at (j := 27) (d := 104) (b := true) (c := false) rfl (by kernel_rfl) t104 rfl) (calm7 laterJ_later (by kernel_rfl) (by kernel_rfl) hj (later_refl _)) rfl
              · intro listed a W H hj hl hd
                have t104 : a.tmps.getD 104 undef = .bool false := H.get 27 104 (by kernel_rfl) (dep_of hd 27 (by kernel_rfl)) (fun _ h => by cases h)
                exact step7_skip (i := 44) rfl (unwanted_at (j := 27) (d := 104) (b := true) (c := false) rfl (by kernel_rfl) t104 rfl) (calm7 laterJ_later (by kernel_rfl) (by kernel_rfl) hj (later_refl _)) rfl
              · intro listed a W H hj hl hd
                have t121 : a.tmps.getD 121 undef = undef := H.get 44 121 (by kernel_rfl) (dep_of hd 44 (by kernel_rfl)) (fun _ h => by cases h)
                exact step7_skip (i := 45) rfl (unwanted_none (j := 44) (d := 121) (b := false) rfl (by kernel_rfl) t121) (calm7 laterJ_later (by kernel_rfl) (by kernel_rfl) hj (later_refl _)) rfl
              · intro listed a W H hj hl hd
                have t121 : a.tmps.getD 121 undef = undef := H.get 44 121 (by kernel_rfl) (dep_of hd 44 (by kernel_rfl)) (fun _ h => by cases h)
                exact step7_skip (i := 46) rfl (unwanted_none (j := 44) (d := 121) (b := false) rfl (by kernel_rfl) t121) (calm7 laterJ_later (by kernel_rfl) (by kernel_rfl) hj (later_refl _)) rfl
              · intro listed a W H hj hl hd
                have t121 : a.tmps.getD 121 undef = undef := H.get 44 121 (by kernel_rfl) (dep_of hd 44 (by kernel_rfl)) (fun _ h => by cases h)
                exact step7_skip (i := 47) rfl (unwanted_none (j := 44) (d := 121) (b := false) rfl (by kernel_rfl) t121) (calm7 laterJ_later (by kernel_rfl) (by kernel_rfl) hj (later_refl _)) rfl
              · intro listed a W H hj hl hd
                have t121 : a.tmps.getD 121 undef = undef := H.get 44 121 (by kernel_rfl) (dep_of hd 44 (by kernel_rfl)) (fun _ h => by cases h)
                exact step7_skip (i := 48) rfl (unwanted_none (j := 44) (d := 121) (b := false) rfl (by kernel_rfl) t121) (calm7 laterJ_later (by kernel_rfl) (by kernel_rfl) hj (later_refl _)) rfl
              · intro listed a W H hj hl hd
                have t121 : a.tmps.getD 121 undef = undef := H.get 44 121 (by kernel_rfl) (dep_of hd 44 (by kernel_rfl)) (fun _ h => by cases h)
                exact step7_skip (i := 49) rfl (unwanted_none (j := 44) (d := 121) (b := false) rfl (by kernel_rfl) t121) (calm7 laterJ_later (by kernel_rfl) (by kernel_rfl) hj (later_refl _)) rfl
              · intro listed a W H hj hl hd
                have t121 : a.tmps.getD 121 undef = undef := H.get 44 121 (by kernel_rfl) (dep_of hd 44 (by kernel_rfl)) (fun _ h => by cases h)
                exact step7_skip (i := 50) rfl (unwanted_none (j := 44) (d := 121) (b := false) rfl (by kernel_rfl) t121) (calm7 laterJ_later (by kernel_rfl) (by kernel_rfl) hj (later_refl _)) rfl
              · intro listed a W H hj hl hd
                have t121 : a.tmps.getD 121 undef = undef := H.get 44 121 (by kernel_rfl) (dep_of hd 44 (by kernel_rfl)) (fun _ h => by cases h)
                exact step7_skip (i := 51) rfl (unwanted_none (j := 44) (d := 121) (b := false) rfl (by kernel_rfl) t121) (calm7 laterJ_later (by kernel_rfl) (by kernel_rfl) hj (later_refl _)) rfl
              · intro listed a W H hj hl hd
                have t121 : a.tmps.getD 121 undef = undef := H.get 44 121 (by kernel_rfl) (dep_of hd 44 (by kernel_rfl)) (fun _ h => by cases h)
                exact step7_skip (i := 52) rfl (unwanted_none (j := 44) (d := 121) (b := false) rfl (by kernel_rfl) t121) (calm7 laterJ_later (by kernel_rfl) (by kernel_rfl) hj (later_refl _)) rfl
              · intro listed a W H hj hl hd
                have t121 : a.tmps.getD 121 undef = undef := H.get 44 121 (by kernel_rfl) (dep_of hd 44 (by kernel_rfl)) (fun _ h => by cases h)
                exact step7_skip (i := 53) rfl (unwanted_none (j := 44) (d := 121) (b := false) rfl (by kernel_rfl) t121) (calm7 laterJ_later (by kernel_rfl) (by kernel_rfl) hj (later_refl _)) rfl
              · intro listed a W H hj hl hd
                have t121 : a.tmps.getD 121 undef = undef := H.get 44 121 (by kernel_rfl) (dep_of hd 44 (by kernel_rfl)) (fun _ h => by cases h)
                exact step7_skip (i := 54) rfl (unwanted_none (j := 44) (d := 121) (b := false) rfl (by kernel_rfl) t121) (calm7 laterJ_later (by kernel_rfl) (by kernel_rfl) hj (later_refl _)) rfl
              · intro listed a W H hj hl hd
                have t121 : a.tmps.getD 121 undef = undef := H.get 44 121 (by kernel_rfl) (dep_of hd 44 (by kernel_rfl)) (fun _ h => by cases h)
                exact step7_skip (i := 55) rfl (unwanted_none (j := 44) (d := 121) (b := false) rfl (by kernel_rfl) t121) (calm7 laterJ_later (by kernel_rfl) (by kernel_rfl) hj (later_refl _)) rfl
              · intro listed a W H hj hl hd
                have t121 : a.tmps.getD 121 undef = undef := H.get 44 121 (by kernel_rfl) (dep_of hd 44 (by kernel_rfl)) (fun _ h => by cases h)
                exact step7_skip (i := 56) rfl (unwanted_none (j := 44) (d := 121) (b := false) rfl (by kernel_rfl) t121) (calm7 laterJ_later (by kernel_rfl) (by kernel_rfl) hj (later_refl _)) rfl
              · intro listed a W H hj hl hd
                have t121 : a.tmps.getD 121 undef = undef := H.get 44 121 (by kernel_rfl) (dep_of hd 44 (by kernel_rfl)) (fun _ h => by cases h)
                exact step7_skip (i := 57) rfl (unwanted_none (j := 44) (d := 121) (b := false) rfl (by kernel_rfl) t121) (calm7 laterJ_later (by kernel_rfl) (by kernel_rfl) hj (later_refl _)) rfl
              · intro listed a W H hj hl hd
                have t121 : a.tmps.getD 121 undef = undef := H.get 44 121 (by kernel_rfl) (dep_of hd 44 (by kernel_rfl)) (fun _ h => by cases h)
                exact step7_skip (i := 58) rfl (unwanted_none (j := 44) (d := 121) (b := false) rfl (by kernel_rfl) t121) (calm7 laterJ_later (by kernel_rfl) (by kernel_rfl) hj (later_refl _)) rfl
              · intro listed a W H hj hl hd
                have t121 : a.tmps.getD 121 undef = undef := H.get 44 121 (by kernel_rfl) (dep_of hd 44 (by kernel_rfl)) (fun _ h => by cases h)
                exact step7_skip (i := 59) rfl (unwanted_none (j := 44) (d := 121) (b := false) rfl (by kernel_rfl) t121) (calm7 laterJ_later (by kernel_rfl) (by kernel_rfl) hj (later_refl _)) rfl
              · intro listed a W H hj hl hd
                have t121 : a.tmps.getD 121 undef = undef := H.get 44 121 (by kernel_rfl) (dep_of hd 44 (by kernel_rfl)) (fun _ h => by cases h)
                exact step7_skip (i := 60) rfl (unwanted_none (j := 44) (d := 121) (b := false) rfl (by kernel_rfl) t121) (calm7 laterJ_later (by kernel_rfl) (by kernel_rfl) hj (later_refl _)) rfl
              · intro listed a W H hj hl hd
                have t121 : a.tmps.getD 121 undef = undef := H.get 44 121 (by kernel_rfl) (dep_of hd 44 (by kernel_rfl)) (fun _ h => by cases h)
                exact step7_skip (i := 61) rfl (unwanted_none (j := 44) (d := 121) (b := false) rfl (by kernel_rfl) t121) (calm7 laterJ_later (by kernel_rfl) (by kernel_rfl) hj (later_refl _)) rfl
              · intro listed a W H hj hl hd
                have t138 : a.tmps.getD 138 undef = undef := H.get 61 138 (by kernel_rfl) (dep_of hd 61 (by kernel_rfl)) (fun _ h => by cases h)
                exact step7_skip (i := 62) rfl (unwanted_none (j := 61) (d := 138) (b := true) rfl (by kernel_rfl) t138) (calm7 laterJ_later (by kernel_rfl) (by kernel_rfl) hj (later_refl _)) rfl
              · intro listed a W H hj hl hd
                have t138 : a.tmps.getD 138 undef = undef := H.get 61 138 (by kernel_rfl) (dep_of hd 61 (by kernel_rfl)) (fun _ h => by cases h)
                exact step7_skip (i := 63) rfl (unwanted_none (j := 61) (d := 138) (b := true) rfl (by kernel_rfl) t138) (calm7 laterJ_later (by kernel_rfl) (by kernel_rfl) hj (later_refl _)) rfl
              · intro listed a W H hj hl hd
                have t138 : a.tmps.getD 138 undef = undef := H.get 61 138 (by kernel_rfl) (dep_of hd 61 (by kernel_rfl)) (fun _ h => by cases h)
                exact step7_skip (i := 64) rfl (unwanted_none (j := 61) (d := 138) (b := true) rfl (by kernel_rfl) t138) (calm7 laterJ_later (by kernel_rfl) (by kernel_rfl) hj (later_refl _)) rfl
              · intro listed a W H hj hl hd
                have t138 : a.tmps.getD 138 undef = undef := H.get 61 138 (by kernel_rfl) (dep_of hd 61 (by kernel_rfl)) (fun _ h => by cases h)
                exact step7_skip (i := 65) rfl (unwanted_none (j := 61) (d := 138) (b := true) rfl (by kernel_rfl) t138) (calm7 laterJ_later (by kernel_rfl) (by kernel_rfl) hj (later_refl _)) rfl
              · intro listed a W H hj hl hd
                have t138 : a.tmps.getD 138 undef = undef := H.get 61 138 (by kernel_rfl) (dep_of hd 61 (by kernel_rfl)) (fun _ h => by cases h)
                exact step7_skip (i := 66) rfl (unwanted_none (j := 61) (d := 138) (b := true) rfl (by kernel_rfl) t138) (calm7 laterJ_later (by kernel_rfl) (by kernel_rfl) hj (later_refl _)) rfl
              · intro listed a W H hj hl hd
                have t138 : a.tmps.getD 138 undef = undef := H.get 61 138 (by kernel_rfl) (dep_of hd 61 (by kernel_rfl)) (fun _ h => by cases h)
                exact step7_skip (i := 67) rfl (unwanted_none (j := 61) (d := 138) (b := true) rfl (by kernel_rfl) t138) (calm7 laterJ_later (by kernel_rfl) (by kernel_rfl) hj (later_refl _)) rfl
              · intro listed a W H hj hl hd
                have t138 : a.tmps.getD 138 undef = undef := H.get 61 138 (by kernel_rfl) (dep_of hd 61 (by kernel_rfl)) (fun _ h => by cases h)
                exact step7_skip (i := 68) rfl (unwanted_none (j := 61) (d := 138) (b := true) rfl (by kernel_rfl) t138) (calm7 laterJ_later (by kernel_rfl) (by kernel_rfl) hj (later_refl _)) rfl
              · intro listed a W H hj hl hd
                have t138 : a.tmps.getD 138 undef = undef := H.get 61 138 (by kernel_rfl) (dep_of hd 61 (by kernel_rfl)) (fun _ h => by cases h)
                exact step7_skip (i := 69) rfl (unwanted_none (j := 61) (d := 138) (b := true) rfl (by kernel_rfl) t138) (calm7 laterJ_later (by kernel_rfl) (by kernel_rfl) hj (later_refl _)) rfl
              · intro listed a W H hj hl hd
                have t138 : a.tmps.getD 138 undef = undef := H.get 61 138 (by kernel_rfl) (dep_of hd 61 (by kernel_rfl)) (fun _ h => by cases h)
                exact step7_skip (i := 70) rfl (unwanted_none (j := 61) (d := 138) (b := true) rfl (by kernel_rfl) t138) (calm7 laterJ_later (by kernel_rfl) (by kernel_rfl) hj (later_refl _)) rfl
              · intro listed a W H hj hl hd
                have t138 : a.tmps.getD 138 undef = undef := H.get 61 138 (by kernel_rfl) (dep_of hd 61 (by kernel_rfl)) (fun _ h => by cases h)
                exact step7_skip (i := 71) rfl (unwanted_none (j := 61) (d := 138) (b := true) rfl (by kernel_rfl) t138) (calm7 laterJ_later (by kernel_rfl) (by kernel_rfl) hj (later_refl _)) rfl
              · intro listed a W H hj hl hd
                have t121 : a.tmps.getD 121 undef = undef := H.get 44 121 (by kernel_rfl) (dep_of hd 44 (by kernel_rfl)) (fun _ h => by cases h)
                exact step7_skip (i := 72) rfl (unwanted_none (j := 44) (d := 121) (b := false) rfl (by kernel_rfl) t121) (calm7 laterJ_later (by kernel_rfl) (by kernel_rfl) hj (later_refl _)) rfl
              · intro listed a W H hj hl hd
                have t104 : a.tmps.getD 104 undef = .bool false := H.get 27 104 (by kernel_rfl) (dep_of hd 27 (by kernel_rfl)) (fun _ h => by cases h)
                exact step7_skip (i := 73) rfl (unwanted_at (j := 27) (d := 104) (b := true) (c := false) rfl (by kernel_rfl) t104 rfl) (calm7 laterJ_later (by kernel_rfl) (by kernel_rfl) hj (later_refl _)) rfl
              · intro listed a W H hj hl hd
                have t101 : a.tmps.getD 101 undef = .bool false := H.get 24 101 (by kernel_rfl) (dep_of hd 24 (by kernel_rfl)) (fun _ h => by cases h)
                have t104 : a.tmps.getD 104 undef = .bool false := H.get 27 104 (by kernel_rfl) (dep_of hd 27 (by kernel_rfl)) (fun _ h => by cases h)
                exact step7_value (i := 74) rfl (wanted_at (j := 24) (d := 101) (b := false) rfl (by kernel_rfl) t101) (run_op_pickF rfl t104 rfl) (calm7 laterJ_later (by kernel_rfl) (by kernel_rfl) hj (later_refl _)) rfl
              · intro listed a W H hj hl hd
                have t101 : a.tmps.getD 101 undef = .bool false := H.get 24 101 (by kernel_rfl) (dep_of hd 24 (by kernel_rfl)) (fun _ h => by cases h)
                have t151 : a.tmps.getD 151 undef = .bool false := H.get 74 151 (by kernel_rfl) (dep_of hd 74 (by kernel_rfl)) (fun _ h => by cases h)
                exact step7_value (i := 75) rfl rfl (run_op_pickF rfl t101 t151) (calm7 laterJ_later (by kernel_rfl) (by kernel_rfl) hj (later_refl _)) rfl
            · intro a WC hdef hsz hw hall hact
              obtain ⟨u, hu⟩ : ∃ u : Nat → Value, ∀ k, a.tmps.getD k undef = u k := ⟨_, fun _ => rfl⟩
              have h152 : u 152 = .bool false := by rw [← hu]; exact hall 75 _ rfl
              simp only [hu] at hact
              have hact' : a = ([77, 78, 79, 80, 81, 82, 83, 84, 85, 86, 87, 88, 89, 90, 91, 92, 93, 94, 95, 96, 97, 98, 99, 100, 101, 102, 103, 104, 105, 106, 107, 108, 109, 110, 111, 112, 113, 114, 115, 116, 117, 118, 119, 120, 121, 122, 123, 124, 125, 126, 127, 128, 129, 130, 131, 132, 133, 134, 135, 136, 137, 138, 139, 140, 141, 142, 143, 144, 145, 146, 147, 148, 149, 150, 151, 152] : List Nat).foldl (fun b k => b.put (some k) (u k)) _ := hact
              simp only [List.foldl] at hact'
              simp only [Act.put, List.setIfInBounds_toArray, List.set_cons_succ, List.set_cons_zero] at hact'
              have HAC := Lib.hid hact'
              have HX := Lib.hid hw
              clear hact hact' hall hdef hsz hw
              rw [h152] at HAC
              rw [HAC.out]
              have PC := Lib.hid (PD.out.since HX.out)
              have OC := Lib.hid (OD.out.since HX.out)
              have BC := Lib.hid (below_chain BD.out HX.out)
              clear PD OD BD HX HDL HWD hu h152
              go_wp2_with fail
              go_roundw
              case rel => exact ⟨i + 1, by go_num, by omega, PC, OC, BC⟩
              case measure => simp [intOf]; omega
          · skip
            have D0 : decide ((0 : Int) < (i : Int)) = true := decide_eq_true (by omega)
            have hlt2 : i - 1 < m := by omega
            obtain ⟨hek2, _⟩ := ML.out (i - 1) hlt2
            have g4 := CO.out _ OD.out (i - 1) hlt2
            have HLX : Hid (lexW xs (o.getD (i - 1) 0) (o.getD i 0)) := by
              have := order_lex (ws := xs) (cs := cs) (n := k) (i := i - 1) (j := i) (by omega) (by rw [HO.out, HOL.out]; exact hlt)
              rw [HO.out] at this; exact this
            obtain ⟨e2, HE2⟩ : ∃ e, Hid (o.getD (i - 1) 0 = e) := ⟨_, rfl⟩
            rw [HE2.out] at hek2 g4 HLX
            rw [HE.out] at HLX
            have g5 := CW.out _ PD.out e2 hek2
            obtain ⟨y2, HY2⟩ : ∃ y, Hid (xs.getD e2 0 = y) := ⟨_, rfl⟩
            rw [HY2.out] at g5
            have hlx : y2 < y ∨ (y2 = y ∧ e2 < e) := by
              have := HLX.out
              unfold lexW at this
              rw [HKX.out, HKX.out, HY.out, HY2.out] at this
              exact this
            obtain ⟨ip, HIP⟩ : ∃ p, Hid (i - 1 = p) := ⟨_, rfl⟩
            rw [HIP.out] at g4 hlt2
            have HSUB : Hid ((i : Int) - 1 = (ip : Int)) := by have := HIP.out; show _ = _; omega
            have D3 : decide (y < y2) = false := decide_eq_false (by omega)
            by_cases hye : y = y2
            · have HEQ : Hid ((y == y2) = true) := by show _ = _; simpa using hye
              have D4 : decide ((e : Int) ≤ (e2 : Int)) = false := decide_eq_false (by omega)
              clear hlx hye HLX HIP hi0
              refine region_of_steps7 (by kernel_rfl) [some (.slice (some ado) m c1), some (.int .i64 (i : Int)), some (.pointer (some (ado.add i))), some (.int .i64 (e : Int)), some (.bool false), some (.bool false), some (.slice (some ado) m c1), some (.int .i64 (i : Int)), some (.pointer (some (ado.add i))), some (.int .i64 (e : Int)), some (.slice (some adw) k c5), some (.int .i64 (k : Int)), some (.bool false), some (.bool false), some (.bool false), some (.slice (some adc) k c6), some (.slice (some ado) m c1), some (.int .i64 (i : Int)), some (.pointer (some (ado.add i))), some (.int .i64 (e : Int)), some (.pointer (some (adc.add e))), some (.bool true), some (.bool false), some (.bool false), some (.bool false), some (.int .i64 (i : Int)), some (.bool true), some (.bool true), some (.slice (some adw) k c5), some (.slice (some ado) m c1), some (.int .i64 (i : Int)), some (.pointer (some (ado.add i))), some (.int .i64 (e : Int)), some (.pointer (some (adw.add e))), some (.int .i64 y), some (.slice (some adw) k c5), some (.slice (some ado) m c1), some (.int .i64 (i : Int)), some (.int .i64 (ip : Int)), some (.pointer (some (ado.add ip))), some (.int .i64 (e2 : Int)), some (.pointer (some (adw.add e2))), some (.int .i64 y2), some (.bool false), some (.bool false), some (.slice (some adw) k c5), some (.slice (some ado) m c1), some (.int .i64 (i : Int)), some (.pointer (some (ado.add i))), some (.int .i64 (e : Int)), some (.pointer (some (adw.add e))), some (.int .i64 y), some (.slice (some adw) k c5), some (.slice (some ado) m c1), some (.int .i64 (i : Int)), some (.int .i64 (ip : Int)), some (.pointer (some (ado.add ip))), some (.int .i64 (e2 : Int)), some (.pointer (some (adw.add e2))), some (.int .i64 y2), some (.bool true), some (.bool true), some (.slice (some ado) m c1), some (.int .i64 (i : Int)), some (.pointer (some (ado.add i))), some (.int .i64 (e : Int)), some (.slice (some ado) m c1), some (.int .i64 (i : Int)), some (.int .i64 (ip : Int)), some (.pointer (some (ado.add ip))), some (.int .i64 (e2 : Int)), some (.bool false), some (.bool false), some (.bool false), some (.bool false), some (.bool false)] [] [] (LaterJ WD) (by kernel_rfl) (by kernel_rfl) (by rw [← HWD.out]; exact Below.refl _ _) ?_ ?_
              · refine Steps7.cons ?_ (Steps7.cons ?_ (Steps7.cons ?_ (Steps7.cons ?_ (Steps7.cons ?_ (Steps7.cons ?_ (Steps7.cons ?_ (Steps7.cons ?_ (Steps7.cons ?_ (Steps7.cons ?_ (Steps7.cons ?_ (Steps7.cons ?_ (Steps7.cons ?_ (Steps7.cons ?_ (Steps7.cons ?_ (Steps7.cons ?_ (Steps7.cons ?_ (Steps7.cons ?_ (Steps7.cons ?_ (Steps7.cons ?_ (Steps7.cons ?_ (Steps7.cons ?_ (Steps7.cons ?_ (Steps7.cons ?_ (Steps7.cons ?_ (Steps7.cons ?_ (Steps7.cons ?_ (Steps7.cons ?_ (Steps7.cons ?_ (Steps7.cons ?_ (Steps7.cons ?_ (Steps7.cons ?_ (Steps7.cons ?_ (Steps7.cons ?_ (Steps7.cons ?_ (Steps7.cons ?_ (Steps7.cons ?_ (Steps7.cons ?_ (Steps7.cons ?_ (Steps7.cons ?_ (Steps7.cons ?_ (Steps7.cons ?_ (Steps7.cons ?_ (Steps7.cons ?_ (Steps7.cons ?_ (Steps7.cons ?_ (Steps7.cons ?_ (Steps7.cons ?_ (Steps7.cons ?_ (Steps7.cons ?_ (Steps7.cons ?_ (Steps7.cons ?_ (Steps7.cons ?_ (Steps7.cons ?_ (Steps7.cons ?_ (Steps7.cons ?_ (Steps7.cons ?_ (Steps7.cons ?_ (Steps7.cons ?_ (Steps7.cons ?_ (Steps7.cons ?_ (Steps7.cons ?_ (Steps7.cons ?_ (Steps7.cons ?_ (Steps7.cons ?_ (Steps7.cons ?_ (Steps7.cons ?_ (Steps7.cons ?_ (Steps7.cons ?_ (Steps7.cons ?_ (Steps7.cons ?_ (Steps7.cons ?_ (Steps7.cons ?_ (Steps7.cons ?_ (Steps7.cons ?_ (Steps7.cons ?_ (Steps7.nil))))))))))))))))))))))))))))))))))))))))))))))))))))))))))))))))))))))))))))
                · intro listed a W H hj hl hd
                  have t9 : a.tmps.getD 9 undef = .slice (some ado) m c1 := (H.old 9 (by kernel_rfl)).trans rfl
                  exact step7_value (i := 0) rfl rfl (run_op_move rfl t9) (calm7 laterJ_later (by kernel_rfl) (by kernel_rfl) hj (later_refl _)) rfl
                · intro listed a W H hj hl hd
                  have t10 : a.tmps.getD 10 undef = .int .i64 (i : Int) := (H.old 10 (by kernel_rfl)).trans rfl
                  exact step7_value (i := 1) rfl rfl (run_op_move rfl t10) (calm7 laterJ_later (by kernel_rfl) (by kernel_rfl) hj (later_refl _)) rfl
                · intro listed a W H hj hl hd
                  have t77 : a.tmps.getD 77 undef = .slice (some ado) m c1 := H.get 0 77 (by kernel_rfl) (dep_of hd 0 (by kernel_rfl)) (fun _ h => by cases h)
                  have t78 : a.tmps.getD 78 undef = .int .i64 (i : Int) := H.get 1 78 (by kernel_rfl) (dep_of hd 1 (by kernel_rfl)) (fun _ h => by cases h)
                  exact step7_value (i := 2) rfl rfl (run_op_index rfl t77 t78 (run_index_i ado m c1 i hlt W)) (calm7 laterJ_later (by kernel_rfl) (by kernel_rfl) hj (later_refl _)) rfl
                · intro listed a W H hj hl hd
                  have t79 : a.tmps.getD 79 undef = .pointer (some (ado.add i)) := H.get 2 79 (by kernel_rfl) (dep_of hd 2 (by kernel_rfl)) (fun _ h => by cases h)
                  exact step7_value (i := 3) rfl rfl (run_op_load rfl t79 (run_load_int _ _ W (later_cell hj g1))) (calm7 laterJ_later (by kernel_rfl) (by kernel_rfl) hj (later_refl _)) rfl
                · intro listed a W H hj hl hd
                  have t80 : a.tmps.getD 80 undef = .int .i64 (e : Int) := H.get 3 80 (by kernel_rfl) (dep_of hd 3 (by kernel_rfl)) (fun _ h => by cases h)
                  exact step7_value (i := 4) rfl rfl (run_op_bin rfl t80 rfl (bin_lss _ _ _ (e : Int) 0 false D1)) (calm7 laterJ_later (by kernel_rfl) (by kernel_rfl) hj (later_refl _)) rfl
                · intro listed a W H hj hl hd
                  have t81 : a.tmps.getD 81 undef = .bool false := H.get 4 81 (by kernel_rfl) (dep_of hd 4 (by kernel_rfl)) (fun _ h => by cases h)
                  exact step7_value (i := 5) rfl rfl (run_op_move rfl t81) (calm7 laterJ_later (by kernel_rfl) (by kernel_rfl) hj (later_refl _)) rfl
                · intro listed a W H hj hl hd
                  have t82 : a.tmps.getD 82 undef = .bool false := H.get 5 82 (by kernel_rfl) (dep_of hd 5 (by kernel_rfl)) (fun _ h => by cases h)
                  have t9 : a.tmps.getD 9 undef = .slice (some ado) m c1 := (H.old 9 (by kernel_rfl)).trans rfl
                  exact step7_value (i := 6) rfl (wanted_at (j := 5) (d := 82) (b := false) rfl (by kernel_rfl) t82) (run_op_move rfl t9) (calm7 laterJ_later (by kernel_rfl) (by kernel_rfl) hj (later_refl _)) rfl
                · intro listed a W H hj hl hd
                  have t82 : a.tmps.getD 82 undef = .bool false := H.get 5 82 (by kernel_rfl) (dep_of hd 5 (by kernel_rfl)) (fun _ h => by cases h)
                  have t10 : a.tmps.getD 10 undef = .int .i64 (i : Int) := (H.old 10 (by kernel_rfl)).trans rfl
                  exact step7_value (i := 7) rfl (wanted_at (j := 5) (d := 82) (b := false) rfl (by kernel_rfl) t82) (run_op_move rfl t10) (calm7 laterJ_later (by kernel_rfl) (by kernel_rfl) hj (later_refl _)) rfl
                · intro listed a W H hj hl hd
                  have t82 : a.tmps.getD 82 undef = .bool false := H.get 5 82 (by kernel_rfl) (dep_of hd 5 (by kernel_rfl)) (fun _ h => by cases h)
                  have t83 : a.tmps.getD 83 undef = .slice (some ado) m c1 := H.get 6 83 (by kernel_rfl) (dep_of hd 6 (by kernel_rfl)) (fun _ h => by cases h)
                  have t84 : a.tmps.getD 84 undef = .int .i64 (i : Int) := H.get 7 84 (by kernel_rfl) (dep_of hd 7 (by kernel_rfl)) (fun _ h => by cases h)
                  exact step7_value (i := 8) rfl (wanted_at (j := 5) (d := 82) (b := false) rfl (by kernel_rfl) t82) (run_op_index rfl t83 t84 (run_index_i ado m c1 i hlt W)) (calm7 laterJ_later (by kernel_rfl) (by kernel_rfl) hj (later_refl _)) rfl
                · intro listed a W H hj hl hd
                  have t82 : a.tmps.getD 82 undef = .bool false := H.get 5 82 (by kernel_rfl) (dep_of hd 5 (by kernel_rfl)) (fun _ h => by cases h)
                  have t85 : a.tmps.getD 85 undef = .pointer (some (ado.add i)) := H.get 8 85 (by kernel_rfl) (dep_of hd 8 (by kernel_rfl)) (fun _ h => by cases h)
                  exact step7_value (i := 9) rfl (wanted_at (j := 5) (d := 82) (b := false) rfl (by kernel_rfl) t82) (run_op_load rfl t85 (run_load_int _ _ W (later_cell hj g1))) (calm7 laterJ_later (by kernel_rfl) (by kernel_rfl) hj (later_refl _)) rfl
                · intro listed a W H hj hl hd
                  have t82 : a.tmps.getD 82 undef = .bool false := H.get 5 82 (by kernel_rfl) (dep_of hd 5 (by kernel_rfl)) (fun _ h => by cases h)
                  have t5 : a.tmps.getD 5 undef = .slice (some adw) k c5 := (H.old 5 (by kernel_rfl)).trans rfl
                  exact step7_value (i := 10) rfl (wanted_at (j := 5) (d := 82) (b := false) rfl (by kernel_rfl) t82) (run_op_move rfl t5) (calm7 laterJ_later (by kernel_rfl) (by kernel_rfl) hj (later_refl _)) rfl
                · intro listed a W H hj hl hd
                  have t82 : a.tmps.getD 82 undef = .bool false := H.get 5 82 (by kernel_rfl) (dep_of hd 5 (by kernel_rfl)) (fun _ h => by cases h)
                  have t87 : a.tmps.getD 87 undef = .slice (some adw) k c5 := H.get 10 87 (by kernel_rfl) (dep_of hd 10 (by kernel_rfl)) (fun _ h => by cases h)
                  exact step7_value (i := 11) rfl (wanted_at (j := 5) (d := 82) (b := false) rfl (by kernel_rfl) t82) (run_op_len Try.underlying22 rfl t87) (calm7 laterJ_later (by kernel_rfl) (by kernel_rfl) hj (later_refl _)) rfl
                · intro listed a W H hj hl hd
                  have t82 : a.tmps.getD 82 undef = .bool false := H.get 5 82 (by kernel_rfl) (dep_of hd 5 (by kernel_rfl)) (fun _ h => by cases h)
                  have t86 : a.tmps.getD 86 undef = .int .i64 (e : Int) := H.get 9 86 (by kernel_rfl) (dep_of hd 9 (by kernel_rfl)) (fun _ h => by cases h)
                  have t88 : a.tmps.getD 88 undef = .int .i64 (k : Int) := H.get 11 88 (by kernel_rfl) (dep_of hd 11 (by kernel_rfl)) (fun _ h => by cases h)
                  exact step7_value (i := 12) rfl (wanted_at (j := 5) (d := 82) (b := false) rfl (by kernel_rfl) t82) (run_op_bin rfl t86 t88 (bin_geq _ _ _ (e : Int) (k : Int) false D2)) (calm7 laterJ_later (by kernel_rfl) (by kernel_rfl) hj (later_refl _)) rfl
                · intro listed a W H hj hl hd
                  have t82 : a.tmps.getD 82 undef = .bool false := H.get 5 82 (by kernel_rfl) (dep_of hd 5 (by kernel_rfl)) (fun _ h => by cases h)
                  have t89 : a.tmps.getD 89 undef = .bool false := H.get 12 89 (by kernel_rfl) (dep_of hd 12 (by kernel_rfl)) (fun _ h => by cases h)
                  exact step7_value (i := 13) rfl rfl (run_op_pickF rfl t82 t89) (calm7 laterJ_later (by kernel_rfl) (by kernel_rfl) hj (later_refl _)) rfl
                · intro listed a W H hj hl hd
                  have t90 : a.tmps.getD 90 undef = .bool false := H.get 13 90 (by kernel_rfl) (dep_of hd 13 (by kernel_rfl)) (fun _ h => by cases h)
                  exact step7_value (i := 14) rfl rfl (run_op_move rfl t90) (calm7 laterJ_later (by kernel_rfl) (by kernel_rfl) hj (later_refl _)) rfl
                · intro listed a W H hj hl hd
                  have t91 : a.tmps.getD 91 undef = .bool false := H.get 14 91 (by kernel_rfl) (dep_of hd 14 (by kernel_rfl)) (fun _ h => by cases h)
                  have t6 : a.tmps.getD 6 undef = .slice (some adc) k c6 := (H.old 6 (by kernel_rfl)).trans rfl
                  exact step7_value (i := 15) rfl (wanted_at (j := 14) (d := 91) (b := false) rfl (by kernel_rfl) t91) (run_op_move rfl t6) (calm7 laterJ_later (by kernel_rfl) (by kernel_rfl) hj (later_refl _)) rfl
                · intro listed a W H hj hl hd
                  have t91 : a.tmps.getD 91 undef = .bool false := H.get 14 91 (by kernel_rfl) (dep_of hd 14 (by kernel_rfl)) (fun _ h => by cases h)
                  have t9 : a.tmps.getD 9 undef = .slice (some ado) m c1 := (H.old 9 (by kernel_rfl)).trans rfl
                  exact step7_value (i := 16) rfl (wanted_at (j := 14) (d := 91) (b := false) rfl (by kernel_rfl) t91) (run_op_move rfl t9) (calm7 laterJ_later (by kernel_rfl) (by kernel_rfl) hj (later_refl _)) rfl
                · intro listed a W H hj hl hd
                  have t91 : a.tmps.getD 91 undef = .bool false := H.get 14 91 (by kernel_rfl) (dep_of hd 14 (by kernel_rfl)) (fun _ h => by cases h)
                  have t10 : a.tmps.getD 10 undef = .int .i64 (i : Int) := (H.old 10 (by kernel_rfl)).trans rfl
                  exact step7_value (i := 17) rfl (wanted_at (j := 14) (d := 91) (b := false) rfl (by kernel_rfl) t91) (run_op_move rfl t10) (calm7 laterJ_later (by kernel_rfl) (by kernel_rfl) hj (later_refl _)) rfl
                · intro listed a W H hj hl hd
                  have t91 : a.tmps.getD 91 undef = .bool false := H.get 14 91 (by kernel_rfl) (dep_of hd 14 (by kernel_rfl)) (fun _ h => by cases h)
                  have t93 : a.tmps.getD 93 undef = .slice (some ado) m c1 := H.get 16 93 (by kernel_rfl) (dep_of hd 16 (by kernel_rfl)) (fun _ h => by cases h)
                  have t94 : a.tmps.getD 94 undef = .int .i64 (i : Int) := H.get 17 94 (by kernel_rfl) (dep_of hd 17 (by kernel_rfl)) (fun _ h => by cases h)
                  exact step7_value (i := 18) rfl (wanted_at (j := 14) (d := 91) (b := false) rfl (by kernel_rfl) t91) (run_op_index rfl t93 t94 (run_index_i ado m c1 i hlt W)) (calm7 laterJ_later (by kernel_rfl) (by kernel_rfl) hj (later_refl _)) rfl
                · intro listed a W H hj hl hd
                  have t91 : a.tmps.getD 91 undef = .bool false := H.get 14 91 (by kernel_rfl) (dep_of hd 14 (by kernel_rfl)) (fun _ h => by cases h)
                  have t95 : a.tmps.getD 95 undef = .pointer (some (ado.add i)) := H.get 18 95 (by kernel_rfl) (dep_of hd 18 (by kernel_rfl)) (fun _ h => by cases h)
                  exact step7_value (i := 19) rfl (wanted_at (j := 14) (d := 91) (b := false) rfl (by kernel_rfl) t91) (run_op_load rfl t95 (run_load_int _ _ W (later_cell hj g1))) (calm7 laterJ_later (by kernel_rfl) (by kernel_rfl) hj (later_refl _)) rfl
                · intro listed a W H hj hl hd
                  have t91 : a.tmps.getD 91 undef = .bool false := H.get 14 91 (by kernel_rfl) (dep_of hd 14 (by kernel_rfl)) (fun _ h => by cases h)
                  have t92 : a.tmps.getD 92 undef = .slice (some adc) k c6 := H.get 15 92 (by kernel_rfl) (dep_of hd 15 (by kernel_rfl)) (fun _ h => by cases h)
                  have t96 : a.tmps.getD 96 undef = .int .i64 (e : Int) := H.get 19 96 (by kernel_rfl) (dep_of hd 19 (by kernel_rfl)) (fun _ h => by cases h)
                  exact step7_value (i := 20) rfl (wanted_at (j := 14) (d := 91) (b := false) rfl (by kernel_rfl) t91) (run_op_index rfl t92 t96 (run_index_b adc k c6 e hek W)) (calm7 laterJ_later (by kernel_rfl) (by kernel_rfl) hj (later_refl _)) rfl
                · intro listed a W H hj hl hd
                  have t91 : a.tmps.getD 91 undef = .bool false := H.get 14 91 (by kernel_rfl) (dep_of hd 14 (by kernel_rfl)) (fun _ h => by cases h)
                  have t97 : a.tmps.getD 97 undef = .pointer (some (adc.add e)) := H.get 20 97 (by kernel_rfl) (dep_of hd 20 (by kernel_rfl)) (fun _ h => by cases h)
                  exact step7_value (i := 21) rfl (wanted_at (j := 14) (d := 91) (b := false) rfl (by kernel_rfl) t91) (run_op_load rfl t97 (run_load_bool _ _ W (later_cell hj g3))) (calm7 laterJ_later (by kernel_rfl) (by kernel_rfl) hj (later_refl _)) rfl
                · intro listed a W H hj hl hd
                  have t91 : a.tmps.getD 91 undef = .bool false := H.get 14 91 (by kernel_rfl) (dep_of hd 14 (by kernel_rfl)) (fun _ h => by cases h)
                  have t98 : a.tmps.getD 98 undef = .bool true := H.get 21 98 (by kernel_rfl) (dep_of hd 21 (by kernel_rfl)) (fun _ h => by cases h)
                  exact step7_value (i := 22) rfl (wanted_at (j := 14) (d := 91) (b := false) rfl (by kernel_rfl) t91) (run_op_not rfl t98) (calm7 laterJ_later (by kernel_rfl) (by kernel_rfl) hj (later_refl _)) rfl
                · intro listed a W H hj hl hd
                  have t91 : a.tmps.getD 91 undef = .bool false := H.get 14 91 (by kernel_rfl) (dep_of hd 14 (by kernel_rfl)) (fun _ h => by cases h)
                  have t99 : a.tmps.getD 99 undef = .bool false := H.get 22 99 (by kernel_rfl) (dep_of hd 22 (by kernel_rfl)) (fun _ h => by cases h)
                  exact step7_value (i := 23) rfl rfl (run_op_pickF rfl t91 t99) (calm7 laterJ_later (by kernel_rfl) (by kernel_rfl) hj (later_refl _)) rfl
                · intro listed a W H hj hl hd
                  have t100 : a.tmps.getD 100 undef = .bool false := H.get 23 100 (by kernel_rfl) (dep_of hd 23 (by kernel_rfl)) (fun _ h => by cases h)
                  exact step7_value (i := 24) rfl rfl (run_op_move rfl t100) (calm7 laterJ_later (by kernel_rfl) (by kernel_rfl) hj (later_refl _)) rfl
                · intro listed a W H hj hl hd
                  have t101 : a.tmps.getD 101 undef = .bool false := H.get 24 101 (by kernel_rfl) (dep_of hd 24 (by kernel_rfl)) (fun _ h => by cases h)
                  have t10 : a.tmps.getD 10 undef = .int .i64 (i : Int) := (H.old 10 (by kernel_rfl)).trans rfl
                  exact step7_value (i := 25) rfl (wanted_at (j := 24) (d := 101) (b := false) rfl (by kernel_rfl) t101) (run_op_move rfl t10) (calm7 laterJ_later (by kernel_rfl) (by kernel_rfl) hj (later_refl _)) rfl
                · intro listed a W H hj hl hd
                  have t101 : a.tmps.getD 101 undef = .bool false := H.get 24 101 (by kernel_rfl) (dep_of hd 24 (by kernel_rfl)) (fun _ h => by cases h)
                  have t102 : a.tmps.getD 102 undef = .int .i64 (i : Int) := H.get 25 102 (by kernel_rfl) (dep_of hd 25 (by kernel_rfl)) (fun _ h => by cases h)
                  exact step7_value (i := 26) rfl (wanted_at (j := 24) (d := 101) (b := false) rfl (by kernel_rfl) t101) (run_op_bin rfl t102 rfl (bin_gtr _ _ _ (i : Int) 0 true D0)) (calm7 laterJ_later (by kernel_rfl) (by kernel_rfl) hj (later_refl _)) rfl
                · intro listed a W H hj hl hd
                  have t101 : a.tmps.getD 101 undef = .bool false := H.get 24 101 (by kernel_rfl) (dep_of hd 24 (by kernel_rfl)) (fun _ h => by cases h)
                  have t103 : a.tmps.getD 103 undef = .bool true := H.get 26 103 (by kernel_rfl) (dep_of hd 26 (by kernel_rfl)) (fun _ h => by cases h)
                  exact step7_value (i := 27) rfl (wanted_at (j := 24) (d := 101) (b := false) rfl (by kernel_rfl) t101) (run_op_move rfl t103) (calm7 laterJ_later (by kernel_rfl) (by kernel_rfl) hj (later_refl _)) rfl
                · intro listed a W H hj hl hd
                  have t104 : a.tmps.getD 104 undef = .bool true := H.get 27 104 (by kernel_rfl) (dep_of hd 27 (by kernel_rfl)) (fun _ h => by cases h)
                  have t5 : a.tmps.getD 5 undef = .slice (some adw) k c5 := (H.old 5 (by kernel_rfl)).trans rfl
                  exact step7_value (i := 28) rfl (wanted_at (j := 27) (d := 104) (b := true) rfl (by kernel_rfl) t104) (run_op_move rfl t5) (calm7 laterJ_later (by kernel_rfl) (by kernel_rfl) hj (later_refl _)) rfl
                · intro listed a W H hj hl hd
                  have t104 : a.tmps.getD 104 undef = .bool true := H.get 27 104 (by kernel_rfl) (dep_of hd 27 (by kernel_rfl)) (fun _ h => by cases h)
                  have t9 : a.tmps.getD 9 undef = .slice (some ado) m c1 := (H.old 9 (by kernel_rfl)).trans rfl
                  exact step7_value (i := 29) rfl (wanted_at (j := 27) (d := 104) (b := true) rfl (by kernel_rfl) t104) (run_op_move rfl t9) (calm7 laterJ_later (by kernel_rfl) (by kernel_rfl) hj (later_refl _)) rfl
                · intro listed a W H hj hl hd
                  have t104 : a.tmps.getD 104 undef = .bool true := H.get 27 104 (by kernel_rfl) (dep_of hd 27 (by kernel_rfl)) (fun _ h => by cases h)
                  have t10 : a.tmps.getD 10 undef = .int .i64 (i : Int) := (H.old 10 (by kernel_rfl)).trans rfl
                  exact step7_value (i := 30) rfl (wanted_at (j := 27) (d := 104) (b := true) rfl (by kernel_rfl) t104) (run_op_move rfl t10) (calm7 laterJ_later (by kernel_rfl) (by kernel_rfl) hj (later_refl _)) rfl
                · intro listed a W H hj hl hd
                  have t104 : a.tmps.getD 104 undef = .bool true := H.get 27 104 (by kernel_rfl) (dep_of hd 27 (by kernel_rfl)) (fun _ h => by cases h)
                  have t106 : a.tmps.getD 106 undef = .slice (some ado) m c1 := H.get 29 106 (by kernel_rfl) (dep_of hd 29 (by kernel_rfl)) (fun _ h => by cases h)
                  have t107 : a.tmps.getD 107 undef = .int .i64 (i : Int) := H.get 30 107 (by kernel_rfl) (dep_of hd 30 (by kernel_rfl)) (fun _ h => by cases h)
                  exact step7_value (i := 31) rfl (wanted_at (j := 27) (d := 104) (b := true) rfl (by kernel_rfl) t104) (run_op_index rfl t106 t107 (run_index_i ado m c1 i hlt W)) (calm7 laterJ_later (by kernel_rfl) (by kernel_rfl) hj (later_refl _)) rfl
                · intro listed a W H hj hl hd
                  have t104 : a.tmps.getD 104 undef = .bool true := H.get 27 104 (by kernel_rfl) (dep_of hd 27 (by kernel_rfl)) (fun _ h => by cases h)
                  have t108 : a.tmps.getD 108 undef = .pointer (some (ado.add i)) := H.get 31 108 (by kernel_rfl) (dep_of hd 31 (by kernel_rfl)) (fun _ h => by cases h)
                  exact step7_value (i := 32) rfl (wanted_at (j := 27) (d := 104) (b := true) rfl (by kernel_rfl) t104) (run_op_load rfl t108 (run_load_int _ _ W (later_cell hj g1))) (calm7 laterJ_later (by kernel_rfl) (by kernel_rfl) hj (later_refl _)) rfl
                · intro listed a W H hj hl hd
                  have t104 : a.tmps.getD 104 undef = .bool true := H.get 27 104 (by kernel_rfl) (dep_of hd 27 (by kernel_rfl)) (fun _ h => by cases h)
                  have t105 : a.tmps.getD 105 undef = .slice (some adw) k c5 := H.get 28 105 (by kernel_rfl) (dep_of hd 28 (by kernel_rfl)) (fun _ h => by cases h)
                  have t109 : a.tmps.getD 109 undef = .int .i64 (e : Int) := H.get 32 109 (by kernel_rfl) (dep_of hd 32 (by kernel_rfl)) (fun _ h => by cases h)
                  exact step7_value (i := 33) rfl (wanted_at (j := 27) (d := 104) (b := true) rfl (by kernel_rfl) t104) (run_op_index rfl t105 t109 (run_index_i adw k c5 e hek W)) (calm7 laterJ_later (by kernel_rfl) (by kernel_rfl) hj (later_refl _)) rfl
                · intro listed a W H hj hl hd
                  have t104 : a.tmps.getD 104 undef = .bool true := H.get 27 104 (by kernel_rfl) (dep_of hd 27 (by kernel_rfl)) (fun _ h => by cases h)
                  have t110 : a.tmps.getD 110 undef = .pointer (some (adw.add e)) := H.get 33 110 (by kernel_rfl) (dep_of hd 33 (by kernel_rfl)) (fun _ h => by cases h)
                  exact step7_value (i := 34) rfl (wanted_at (j := 27) (d := 104) (b := true) rfl (by kernel_rfl) t104) (run_op_load rfl t110 (run_load_int _ _ W (later_cell hj g2))) (calm7 laterJ_later (by kernel_rfl) (by kernel_rfl) hj (later_refl _)) rfl
                · intro listed a W H hj hl hd
                  have t104 : a.tmps.getD 104 undef = .bool true := H.get 27 104 (by kernel_rfl) (dep_of hd 27 (by kernel_rfl)) (fun _ h => by cases h)
                  have t5 : a.tmps.getD 5 undef = .slice (some adw) k c5 := (H.old 5 (by kernel_rfl)).trans rfl
                  exact step7_value (i := 35) rfl (wanted_at (j := 27) (d := 104) (b := true) rfl (by kernel_rfl) t104) (run_op_move rfl t5) (calm7 laterJ_later (by kernel_rfl) (by kernel_rfl) hj (later_refl _)) rfl
                · intro listed a W H hj hl hd
                  have t104 : a.tmps.getD 104 undef = .bool true := H.get 27 104 (by kernel_rfl) (dep_of hd 27 (by kernel_rfl)) (fun _ h => by cases h)
                  have t9 : a.tmps.getD 9 undef = .slice (some ado) m c1 := (H.old 9 (by kernel_rfl)).trans rfl
                  exact step7_value (i := 36) rfl (wanted_at (j := 27) (d := 104) (b := true) rfl (by kernel_rfl) t104) (run_op_move rfl t9) (calm7 laterJ_later (by kernel_rfl) (by kernel_rfl) hj (later_refl _)) rfl
                · intro listed a W H hj hl hd
                  have t104 : a.tmps.getD 104 undef = .bool true := H.get 27 104 (by kernel_rfl) (dep_of hd 27 (by kernel_rfl)) (fun _ h => by cases h)
                  have t10 : a.tmps.getD 10 undef = .int .i64 (i : Int) := (H.old 10 (by kernel_rfl)).trans rfl
                  exact step7_value (i := 37) rfl (wanted_at (j := 27) (d := 104) (b := true) rfl (by kernel_rfl) t104) (run_op_move rfl t10) (calm7 laterJ_later (by kernel_rfl) (by kernel_rfl) hj (later_refl _)) rfl
                · intro listed a W H hj hl hd
                  have t104 : a.tmps.getD 104 undef = .bool true := H.get 27 104 (by kernel_rfl) (dep_of hd 27 (by kernel_rfl)) (fun _ h => by cases h)
                  have t114 : a.tmps.getD 114 undef = .int .i64 (i : Int) := H.get 37 114 (by kernel_rfl) (dep_of hd 37 (by kernel_rfl)) (fun _ h => by cases h)
                  exact step7_value (i := 38) rfl (wanted_at (j := 27) (d := 104) (b := true) rfl (by kernel_rfl) t104) (run_op_bin rfl t114 rfl (bin_sub _ _ _ (i : Int) 1 (ip : Int) HSUB.out (by omega) (by omega))) (calm7 laterJ_later (by kernel_rfl) (by kernel_rfl) hj (later_refl _)) rfl
                · intro listed a W H hj hl hd
                  have t104 : a.tmps.getD 104 undef = .bool true := H.get 27 104 (by kernel_rfl) (dep_of hd 27 (by kernel_rfl)) (fun _ h => by cases h)
                  have t113 : a.tmps.getD 113 undef = .slice (some ado) m c1 := H.get 36 113 (by kernel_rfl) (dep_of hd 36 (by kernel_rfl)) (fun _ h => by cases h)
                  have t115 : a.tmps.getD 115 undef = .int .i64 (ip : Int) := H.get 38 115 (by kernel_rfl) (dep_of hd 38 (by kernel_rfl)) (fun _ h => by cases h)
                  exact step7_value (i := 39) rfl (wanted_at (j := 27) (d := 104) (b := true) rfl (by kernel_rfl) t104) (run_op_index rfl t113 t115 (run_index_i ado m c1 ip hlt2 W)) (calm7 laterJ_later (by kernel_rfl) (by kernel_rfl) hj (later_refl _)) rfl
                · intro listed a W H hj hl hd
                  have t104 : a.tmps.getD 104 undef = .bool true := H.get 27 104 (by kernel_rfl) (dep_of hd 27 (by kernel_rfl)) (fun _ h => by cases h)
                  have t116 : a.tmps.getD 116 undef = .pointer (some (ado.add ip)) := H.get 39 116 (by kernel_rfl) (dep_of hd 39 (by kernel_rfl)) (fun _ h => by cases h)
                  exact step7_value (i := 40) rfl (wanted_at (j := 27) (d := 104) (b := true) rfl (by kernel_rfl) t104) (run_op_load rfl t116 (run_load_int _ _ W (later_cell hj g4))) (calm7 laterJ_later (by kernel_rfl) (by kernel_rfl) hj (later_refl _)) rfl
                · intro listed a W H hj hl hd
                  have t104 : a.tmps.getD 104 undef = .bool true := H.get 27 104 (by kernel_rfl) (dep_of hd 27 (by kernel_rfl)) (fun _ h => by cases h)
                  have t112 : a.tmps.getD 112 undef = .slice (some adw) k c5 := H.get 35 112 (by kernel_rfl) (dep_of hd 35 (by kernel_rfl)) (fun _ h => by cases h)
                  have t117 : a.tmps.getD 117 undef = .int .i64 (e2 : Int) := H.get 40 117 (by kernel_rfl) (dep_of hd 40 (by kernel_rfl)) (fun _ h => by cases h)
                  exact step7_value (i := 41) rfl (wanted_at (j := 27) (d := 104) (b := true) rfl (by kernel_rfl) t104) (run_op_index rfl t112 t117 (run_index_i adw k c5 e2 hek2 W)) (calm7 laterJ_later (by kernel_rfl) (by kernel_rfl) hj (later_refl _)) rfl
                · intro listed a W H hj hl hd
                  have t104 : a.tmps.getD 104 undef = .bool true := H.get 27 104 (by kernel_rfl) (dep_of hd 27 (by kernel_rfl)) (fun _ h => by cases h)
                  have t118 : a.tmps.getD 118 undef = .pointer (some (adw.add e2)) := H.get 41 118 (by kernel_rfl) (dep_of hd 41 (by kernel_rfl)) (fun _ h => by cases h)
                  exact step7_value (i := 42) rfl (wanted_at (j := 27) (d := 104) (b := true) rfl (by kernel_rfl) t104) (run_op_load rfl t118 (run_load_int _ _ W (later_cell hj g5))) (calm7 laterJ_later (by kernel_rfl) (by kernel_rfl) hj (later_refl _)) rfl
                · intro listed a W H hj hl hd
                  have t104 : a.tmps.getD 104 undef = .bool true := H.get 27 104 (by kernel_rfl) (dep_of hd 27 (by kernel_rfl)) (fun _ h => by cases h)
                  have t111 : a.tmps.getD 111 undef = .int .i64 y := H.get 34 111 (by kernel_rfl) (dep_of hd 34 (by kernel_rfl)) (fun _ h => by cases h)
                  have t119 : a.tmps.getD 119 undef = .int .i64 y2 := H.get 42 119 (by kernel_rfl) (dep_of hd 42 (by kernel_rfl)) (fun _ h => by cases h)
                  exact step7_value (i := 43) rfl (wanted_at (j := 27) (d := 104) (b := true) rfl (by kernel_rfl) t104) (run_op_bin rfl t111 t119 (bin_lss _ _ _ y y2 false D3)) (calm7 laterJ_later (by kernel_rfl) (by kernel_rfl) hj (later_refl _)) rfl
                · intro listed a W H hj hl hd
                  have t104 : a.tmps.getD 104 undef = .bool true := H.get 27 104 (by kernel_rfl) (dep_of hd 27 (by kernel_rfl)) (fun _ h => by cases h)
                  have t120 : a.tmps.getD 120 undef = .bool false := H.get 43 120 (by kernel_rfl) (dep_of hd 43 (by kernel_rfl)) (fun _ h => by cases h)
                  exact step7_value (i := 44) rfl (wanted_at (j := 27) (d := 104) (b := true) rfl (by kernel_rfl) t104) (run_op_move rfl t120) (calm7 laterJ_later (by kernel_rfl) (by kernel_rfl) hj (later_refl _)) rfl
                · intro listed a W H hj hl hd
                  have t121 : a.tmps.getD 121 undef = .bool false := H.get 44 121 (by kernel_rfl) (dep_of hd 44 (by kernel_rfl)) (fun _ h => by cases h)
                  have t5 : a.tmps.getD 5 undef = .slice (some adw) k c5 := (H.old 5 (by kernel_rfl)).trans rfl
                  exact step7_value (i := 45) rfl (wanted_at (j := 44) (d := 121) (b := false) rfl (by kernel_rfl) t121) (run_op_move rfl t5) (calm7 laterJ_later (by kernel_rfl) (by kernel_rfl) hj (later_refl _)) rfl
                · intro listed a W H hj hl hd
                  have t121 : a.tmps.getD 121 undef = .bool false := H.get 44 121 (by kernel_rfl) (dep_of hd 44 (by kernel_rfl)) (fun _ h => by cases h)
                  have t9 : a.tmps.getD 9 undef = .slice (some ado) m c1 := (H.old 9 (by kernel_rfl)).trans rfl
                  exact step7_value (i := 46) rfl (wanted_at (j := 44) (d := 121) (b := false) rfl (by kernel_rfl) t121) (run_op_move rfl t9) (calm7 laterJ_later (by kernel_rfl) (by kernel_rfl) hj (later_refl _)) rfl
                · intro listed a W H hj hl hd
                  have t121 : a.tmps.getD 121 undef = .bool false := H.get 44 121 (by kernel_rfl) (dep_of hd 44 (by kernel_rfl)) (fun _ h => by cases h)
                  have t10 : a.tmps.getD 10 undef = .int .i64 (i : Int) := (H.old 10 (by kernel_rfl)).trans rfl
                  exact step7_value (i := 47) rfl (wanted_at (j := 44) (d := 121) (b := false) rfl (by kernel_rfl) t121) (run_op_move rfl t10) (calm7 laterJ_later (by kernel_rfl) (by kernel_rfl) hj (later_refl _)) rfl
                · intro listed a W H hj hl hd
                  have t121 : a.tmps.getD 121 undef = .bool false := H.get 44 121 (by kernel_rfl) (dep_of hd 44 (by kernel_rfl)) (fun _ h => by cases h)
                  have t123 : a.tmps.getD 123 undef = .slice (some ado) m c1 := H.get 46 123 (by kernel_rfl) (dep_of hd 46 (by kernel_rfl)) (fun _ h => by cases h)
                  have t124 : a.tmps.getD 124 undef = .int .i64 (i : Int) := H.get 47 124 (by kernel_rfl) (dep_of hd 47 (by kernel_rfl)) (fun _ h => by cases h)
                  exact step7_value (i := 48) rfl (wanted_at (j := 44) (d := 121) (b := false) rfl (by kernel_rfl) t121) (run_op_index rfl t123 t124 (run_index_i ado m c1 i hlt W)) (calm7 laterJ_later (by kernel_rfl) (by kernel_rfl) hj (later_refl _)) rfl
                · intro listed a W H hj hl hd
                  have t121 : a.tmps.getD 121 undef = .bool false := H.get 44 121 (by kernel_rfl) (dep_of hd 44 (by kernel_rfl)) (fun _ h => by cases h)
                  have t125 : a.tmps.getD 125 undef = .pointer (some (ado.add i)) := H.get 48 125 (by kernel_rfl) (dep_of hd 48 (by kernel_rfl)) (fun _ h => by cases h)
                  exact step7_value (i := 49) rfl (wanted_at (j := 44) (d := 121) (b := false) rfl (by kernel_rfl) t121) (run_op_load rfl t125 (run_load_int _ _ W (later_cell hj g1))) (calm7 laterJ_later (by kernel_rfl) (by kernel_rfl) hj (later_refl _)) rfl
                · intro listed a W H hj hl hd
                  have t121 : a.tmps.getD 121 undef = .bool false := H.get 44 121 (by kernel_rfl) (dep_of hd 44 (by kernel_rfl)) (fun _ h => by cases h)
                  have t122 : a.tmps.getD 122 undef = .slice (some adw) k c5 := H.get 45 122 (by kernel_rfl) (dep_of hd 45 (by kernel_rfl)) (fun _ h => by cases h)
                  have t126 : a.tmps.getD 126 undef = .int .i64 (e : Int) := H.get 49 126 (by kernel_rfl) (dep_of hd 49 (by kernel_rfl)) (fun _ h => by cases h)
                  exact step7_value (i := 50) rfl (wanted_at (j := 44) (d := 121) (b := false) rfl (by kernel_rfl) t121) (run_op_index rfl t122 t126 (run_index_i adw k c5 e hek W)) (calm7 laterJ_later (by kernel_rfl) (by kernel_rfl) hj (later_refl _)) rfl
                · intro listed a W H hj hl hd
                  have t121 : a.tmps.getD 121 undef = .bool false := H.get 44 121 (by kernel_rfl) (dep_of hd 44 (by kernel_rfl)) (fun _ h => by cases h)
                  have t127 : a.tmps.getD 127 undef = .pointer (some (adw.add e)) := H.get 50 127 (by kernel_rfl) (dep_of hd 50 (by kernel_rfl)) (fun _ h => by cases h)
                  exact step7_value (i := 51) rfl (wanted_at (j := 44) (d := 121) (b := false) rfl (by kernel_rfl) t121) (run_op_load rfl t127 (run_load_int _ _ W (later_cell hj g2))) (calm7 laterJ_later (by kernel_rfl) (by kernel_rfl) hj (later_refl _)) rfl
                · intro listed a W H hj hl hd
                  have t121 : a.tmps.getD 121 undef = .bool false := H.get 44 121 (by kernel_rfl) (dep_of hd 44 (by kernel_rfl)) (fun _ h => by cases h)
                  have t5 : a.tmps.getD 5 undef = .slice (some adw) k c5 := (H.old 5 (by kernel_rfl)).trans rfl
                  exact step7_value (i := 52) rfl (wanted_at (j := 44) (d := 121) (b := false) rfl (by kernel_rfl) t121) (run_op_move rfl t5) (calm7 laterJ_later (by kernel_rfl) (by kernel_rfl) hj (later_refl _)) rfl
                · intro listed a W H hj hl hd
                  have t121 : a.tmps.getD 121 undef = .bool false := H.get 44 121 (by kernel_rfl) (dep_of hd 44 (by kernel_rfl)) (fun _ h => by cases h)
                  have t9 : a.tmps.getD 9 undef = .slice (some ado) m c1 := (H.old 9 (by kernel_rfl)).trans rfl
                  exact step7_value (i := 53) rfl (wanted_at (j := 44) (d := 121) (b := false) rfl (by kernel_rfl) t121) (run_op_move rfl t9) (calm7 laterJ_later (by kernel_rfl) (by kernel_rfl) hj (later_refl _)) rfl
                · intro listed a W H hj hl hd
                  have t121 : a.tmps.getD 121 undef = .bool false := H.get 44 121 (by kernel_rfl) (dep_of hd 44 (by kernel_rfl)) (fun _ h => by cases h)
                  have t10 : a.tmps.getD 10 undef = .int .i64 (i : Int) := (H.old 10 (by kernel_rfl)).trans rfl
                  exact step7_value (i := 54) rfl (wanted_at (j := 44) (d := 121) (b := false) rfl (by kernel_rfl) t121) (run_op_move rfl t10) (calm7 laterJ_later (by kernel_rfl) (by kernel_rfl) hj (later_refl _)) rfl
                · intro listed a W H hj hl hd
                  have t121 : a.tmps.getD 121 undef = .bool false := H.get 44 121 (by kernel_rfl) (dep_of hd 44 (by kernel_rfl)) (fun _ h => by cases h)
                  have t131 : a.tmps.getD 131 undef = .int .i64 (i : Int) := H.get 54 131 (by kernel_rfl) (dep_of hd 54 (by kernel_rfl)) (fun _ h => by cases h)
                  exact step7_value (i := 55) rfl (wanted_at (j := 44) (d := 121) (b := false) rfl (by kernel_rfl) t121) (run_op_bin rfl t131 rfl (bin_sub _ _ _ (i : Int) 1 (ip : Int) HSUB.out (by omega) (by omega))) (calm7 laterJ_later (by kernel_rfl) (by kernel_rfl) hj (later_refl _)) rfl
                · intro listed a W H hj hl hd
                  have t121 : a.tmps.getD 121 undef = .bool false := H.get 44 121 (by kernel_rfl) (dep_of hd 44 (by kernel_rfl)) (fun _ h => by cases h)
                  have t130 : a.tmps.getD 130 undef = .slice (some ado) m c1 := H.get 53 130 (by kernel_rfl) (dep_of hd 53 (by kernel_rfl)) (fun _ h => by cases h)
                  have t132 : a.tmps.getD 132 undef = .int .i64 (ip : Int) := H.get 55 132 (by kernel_rfl) (dep_of hd 55 (by kernel_rfl)) (fun _ h => by cases h)
                  exact step7_value (i := 56) rfl (wanted_at (j := 44) (d := 121) (b := false) rfl (by kernel_rfl) t121) (run_op_index rfl t130 t132 (run_index_i ado m c1 ip hlt2 W)) (calm7 laterJ_later (by kernel_rfl) (by kernel_rfl) hj (later_refl _)) rfl
                · intro listed a W H hj hl hd
                  have t121 : a.tmps.getD 121 undef = .bool false := H.get 44 121 (by kernel_rfl) (dep_of hd 44 (by kernel_rfl)) (fun _ h => by cases h)
                  have t133 : a.tmps.getD 133 undef = .pointer (some (ado.add ip)) := H.get 56 133 (by kernel_rfl) (dep_of hd 56 (by kernel_rfl)) (fun _ h => by cases h)
                  exact step7_value (i := 57) rfl (wanted_at (j := 44) (d := 121) (b := false) rfl (by kernel_rfl) t121) (run_op_load rfl t133 (run_load_int _ _ W (later_cell hj g4))) (calm7 laterJ_later (by kernel_rfl) (by kernel_rfl) hj (later_refl _)) rfl
                · intro listed a W H hj hl hd
                  have t121 : a.tmps.getD 121 undef = .bool false := H.get 44 121 (by kernel_rfl) (dep_of hd 44 (by kernel_rfl)) (fun _ h => by cases h)
                  have t129 : a.tmps.getD 129 undef = .slice (some adw) k c5 := H.get 52 129 (by kernel_rfl) (dep_of hd 52 (by kernel_rfl)) (fun _ h => by cases h)
                  have t134 : a.tmps.getD 134 undef = .int .i64 (e2 : Int) := H.get 57 134 (by kernel_rfl) (dep_of hd 57 (by kernel_rfl)) (fun _ h => by cases h)
                  exact step7_value (i := 58) rfl (wanted_at (j := 44) (d := 121) (b := false) rfl (by kernel_rfl) t121) (run_op_index rfl t129 t134 (run_index_i adw k c5 e2 hek2 W)) (calm7 laterJ_later (by kernel_rfl) (by kernel_rfl) hj (later_refl _)) rfl
                · intro listed a W H hj hl hd
                  have t121 : a.tmps.getD 121 undef = .bool false := H.get 44 121 (by kernel_rfl) (dep_of hd 44 (by kernel_rfl)) (fun _ h => by cases h)
                  have t135 : a.tmps.getD 135 undef = .pointer (some (adw.add e2)) := H.get 58 135 (by kernel_rfl) (dep_of hd 58 (by kernel_rfl)) (fun _ h => by cases h)
                  exact step7_value (i := 59) rfl (wanted_at (j := 44) (d := 121) (b := false) rfl (by kernel_rfl) t121) (run_op_load rfl t135 (run_load_int _ _ W (later_cell hj g5))) (calm7 laterJ_later (by kernel_rfl) (by kernel_rfl) hj (later_refl _)) rfl
                · intro listed a W H hj hl hd
                  have t121 : a.tmps.getD 121 undef = .bool false := H.get 44 121 (by kernel_rfl) (dep_of hd 44 (by kernel_rfl)) (fun _ h => by cases h)
                  have t128 : a.tmps.getD 128 undef = .int .i64 y := H.get 51 128 (by kernel_rfl) (dep_of hd 51 (by kernel_rfl)) (fun _ h => by cases h)
                  have t136 : a.tmps.getD 136 undef = .int .i64 y2 := H.get 59 136 (by kernel_rfl) (dep_of hd 59 (by kernel_rfl)) (fun _ h => by cases h)
                  exact step7_value (i := 60) rfl (wanted_at (j := 44) (d := 121) (b := false) rfl (by kernel_rfl) t121) (run_op_bin rfl t128 t136 (bin_eql _ _ _ y y2 true HEQ.out)) (calm7 laterJ_later (by kernel_rfl) (by kernel_rfl) hj (later_refl _)) rfl
                · intro listed a W H hj hl hd
                  have t121 : a.tmps.getD 121 undef = .bool false := H.get 44 121 (by kernel_rfl) (dep_of hd 44 (by kernel_rfl)) (fun _ h => by cases h)
                  have t137 : a.tmps.getD 137 undef = .bool true := H.get 60 137 (by kernel_rfl) (dep_of hd 60 (by kernel_rfl)) (fun _ h => by cases h)
                  exact step7_value (i := 61) rfl (wanted_at (j := 44) (d := 121) (b := false) rfl (by kernel_rfl) t121) (run_op_move rfl t137) (calm7 laterJ_later (by kernel_rfl) (by kernel_rfl) hj (later_refl _)) rfl
                · intro listed a W H hj hl hd
                  have t138 : a.tmps.getD 138 undef = .bool true := H.get 61 138 (by kernel_rfl) (dep_of hd 61 (by kernel_rfl)) (fun _ h => by cases h)
                  have t9 : a.tmps.getD 9 undef = .slice (some ado) m c1 := (H.old 9 (by kernel_rfl)).trans rfl
                  exact step7_value (i := 62) rfl (wanted_at (j := 61) (d := 138) (b := true) rfl (by kernel_rfl) t138) (run_op_move rfl t9) (calm7 laterJ_later (by kernel_rfl) (by kernel_rfl) hj (later_refl _)) rfl
                · intro listed a W H hj hl hd
                  have t138 : a.tmps.getD 138 undef = .bool true := H.get 61 138 (by kernel_rfl) (dep_of hd 61 (by kernel_rfl)) (fun _ h => by cases h)
                  have t10 : a.tmps.getD 10 undef = .int .i64 (i : Int) := (H.old 10 (by kernel_rfl)).trans rfl
                  exact step7_value (i := 63) rfl (wanted_at (j := 61) (d := 138) (b := true) rfl (by kernel_rfl) t138) (run_op_move rfl t10) (calm7 laterJ_later (by kernel_rfl) (by kernel_rfl) hj (later_refl _)) rfl
                · intro listed a W H hj hl hd
                  have t138 : a.tmps.getD 138 undef = .bool true := H.get 61 138 (by kernel_rfl) (dep_of hd 61 (by kernel_rfl)) (fun _ h => by cases h)
                  have t139 : a.tmps.getD 139 undef = .slice (some ado) m c1 := H.get 62 139 (by kernel_rfl) (dep_of hd 62 (by kernel_rfl)) (fun _ h => by cases h)
                  have t140 : a.tmps.getD 140 undef = .int .i64 (i : Int) := H.get 63 140 (by kernel_rfl) (dep_of hd 63 (by kernel_rfl)) (fun _ h => by cases h)
                  exact step7_value (i := 64) rfl (wanted_at (j := 61) (d := 138) (b := true) rfl (by kernel_rfl) t138) (run_op_index rfl t139 t140 (run_index_i ado m c1 i hlt W)) (calm7 laterJ_later (by kernel_rfl) (by kernel_rfl) hj (later_refl _)) rfl
                · intro listed a W H hj hl hd
                  have t138 : a.tmps.getD 138 undef = .bool true := H.get 61 138 (by kernel_rfl) (dep_of hd 61 (by kernel_rfl)) (fun _ h => by cases h)
                  have t141 : a.tmps.getD 141 undef = .pointer (some (ado.add i)) := H.get 64 141 (by kernel_rfl) (dep_of hd 64 (by kernel_rfl)) (fun _ h => by cases h)
                  exact step7_value (i := 65) rfl (wanted_at (j := 61) (d := 138) (b := true) rfl (by kernel_rfl) t138) (run_op_load rfl t141 (run_load_int _ _ W (later_cell hj g1))) (calm7 laterJ_later (by kernel_rfl) (by kernel_rfl) hj (later_refl _)) rfl
                · intro listed a W H hj hl hd
                  have t138 : a.tmps.getD 138 undef = .bool true := H.get 61 138 (by kernel_rfl) (dep_of hd 61 (by kernel_rfl)) (fun _ h => by cases h)
                  have t9 : a.tmps.getD 9 undef = .slice (some ado) m c1 := (H.old 9 (by kernel_rfl)).trans rfl
                  exact step7_value (i := 66) rfl (wanted_at (j := 61) (d := 138) (b := true) rfl (by kernel_rfl) t138) (run_op_move rfl t9) (calm7 laterJ_later (by kernel_rfl) (by kernel_rfl) hj (later_refl _)) rfl
                · intro listed a W H hj hl hd
                  have t138 : a.tmps.getD 138 undef = .bool true := H.get 61 138 (by kernel_rfl) (dep_of hd 61 (by kernel_rfl)) (fun _ h => by cases h)
                  have t10 : a.tmps.getD 10 undef = .int .i64 (i : Int) := (H.old 10 (by kernel_rfl)).trans rfl
                  exact step7_value (i := 67) rfl (wanted_at (j := 61) (d := 138) (b := true) rfl (by kernel_rfl) t138) (run_op_move rfl t10) (calm7 laterJ_later (by kernel_rfl) (by kernel_rfl) hj (later_refl _)) rfl
                · intro listed a W H hj hl hd
                  have t138 : a.tmps.getD 138 undef = .bool true := H.get 61 138 (by kernel_rfl) (dep_of hd 61 (by kernel_rfl)) (fun _ h => by cases h)
                  have t144 : a.tmps.getD 144 undef = .int .i64 (i : Int) := H.get 67 144 (by kernel_rfl) (dep_of hd 67 (by kernel_rfl)) (fun _ h => by cases h)
                  exact step7_value (i := 68) rfl (wanted_at (j := 61) (d := 138) (b := true) rfl (by kernel_rfl) t138) (run_op_bin rfl t144 rfl (bin_sub _ _ _ (i : Int) 1 (ip : Int) HSUB.out (by omega) (by omega))) (calm7 laterJ_later (by kernel_rfl) (by kernel_rfl) hj (later_refl _)) rfl
                · intro listed a W H hj hl hd
                  have t138 : a.tmps.getD 138 undef = .bool true := H.get 61 138 (by kernel_rfl) (dep_of hd 61 (by kernel_rfl)) (fun _ h => by cases h)
                  have t143 : a.tmps.getD 143 undef = .slice (some ado) m c1 := H.get 66 143 (by kernel_rfl) (dep_of hd 66 (by kernel_rfl)) (fun _ h => by cases h)
                  have t145 : a.tmps.getD 145 undef = .int .i64 (ip : Int) := H.get 68 145 (by kernel_rfl) (dep_of hd 68 (by kernel_rfl)) (fun _ h => by cases h)
                  exact step7_value (i := 69) rfl (wanted_at (j := 61) (d := 138) (b := true) rfl (by kernel_rfl) t138) (run_op_index rfl t143 t145 (run_index_i ado m c1 ip hlt2 W)) (calm7 laterJ_later (by kernel_rfl) (by kernel_rfl) hj (later_refl _)) rfl
                · intro listed a W H hj hl hd
                  have t138 : a.tmps.getD 138 undef = .bool true := H.get 61 138 (by kernel_rfl) (dep_of hd 61 (by kernel_rfl)) (fun _ h => by cases h)
                  have t146 : a.tmps.getD 146 undef = .pointer (some (ado.add ip)) := H.get 69 146 (by kernel_rfl) (dep_of hd 69 (by kernel_rfl)) (fun _ h => by cases h)
                  exact step7_value (i := 70) rfl (wanted_at (j := 61) (d := 138) (b := true) rfl (by kernel_rfl) t138) (run_op_load rfl t146 (run_load_int _ _ W (later_cell hj g4))) (calm7 laterJ_later (by kernel_rfl) (by kernel_rfl) hj (later_refl _)) rfl
                · intro listed a W H hj hl hd
                  have t138 : a.tmps.getD 138 undef = .bool true := H.get 61 138 (by kernel_rfl) (dep_of hd 61 (by kernel_rfl)) (fun _ h => by cases h)
                  have t142 : a.tmps.getD 142 undef = .int .i64 (e : Int) := H.get 65 142 (by kernel_rfl) (dep_of hd 65 (by kernel_rfl)) (fun _ h => by cases h)
                  have t147 : a.tmps.getD 147 undef = .int .i64 (e2 : Int) := H.get 70 147 (by kernel_rfl) (dep_of hd 70 (by kernel_rfl)) (fun _ h => by cases h)
                  exact step7_value (i := 71) rfl (wanted_at (j := 61) (d := 138) (b := true) rfl (by kernel_rfl) t138) (run_op_bin rfl t142 t147 (bin_leq _ _ _ (e : Int) (e2 : Int) false D4)) (calm7 laterJ_later (by kernel_rfl) (by kernel_rfl) hj (later_refl _)) rfl
                · intro listed a W H hj hl hd
                  have t121 : a.tmps.getD 121 undef = .bool false := H.get 44 121 (by kernel_rfl) (dep_of hd 44 (by kernel_rfl)) (fun _ h => by cases h)
                  have t138 : a.tmps.getD 138 undef = .bool true := H.get 61 138 (by kernel_rfl) (dep_of hd 61 (by kernel_rfl)) (fun _ h => by cases h)
                  have t148 : a.tmps.getD 148 undef = .bool false := H.get 71 148 (by kernel_rfl) (dep_of hd 71 (by kernel_rfl)) (fun _ h => by cases h)
                  exact step7_value (i := 72) rfl (wanted_at (j := 44) (d := 121) (b := false) rfl (by kernel_rfl) t121) (run_op_pick rfl t138 t148) (calm7 laterJ_later (by kernel_rfl) (by kernel_rfl) hj (later_refl _)) rfl
                · intro listed a W H hj hl hd
                  have t104 : a.tmps.getD 104 undef = .bool true := H.get 27 104 (by kernel_rfl) (dep_of hd 27 (by kernel_rfl)) (fun _ h => by cases h)
                  have t121 : a.tmps.getD 121 undef = .bool false := H.get 44 121 (by kernel_rfl) (dep_of hd 44 (by kernel_rfl)) (fun _ h => by cases h)
                  have t149 : a.tmps.getD 149 undef = .bool false := H.get 72 149 (by kernel_rfl) (dep_of hd 72 (by kernel_rfl)) (fun _ h => by cases h)
                  exact step7_value (i := 73) rfl (wanted_at (j := 27) (d := 104) (b := true) rfl (by kernel_rfl) t104) (run_op_pickF rfl t121 t149) (calm7 laterJ_later (by kernel_rfl) (by kernel_rfl) hj (later_refl _)) rfl
                · intro listed a W H hj hl hd
                  have t101 : a.tmps.getD 101 undef = .bool false := H.get 24 101 (by kernel_rfl) (dep_of hd 24 (by kernel_rfl)) (fun _ h => by cases h)
                  have t104 : a.tmps.getD 104 undef = .bool true := H.get 27 104 (by kernel_rfl) (dep_of hd 27 (by kernel_rfl)) (fun _ h => by cases h)
                  have t150 : a.tmps.getD 150 undef = .bool false := H.get 73 150 (by kernel_rfl) (dep_of hd 73 (by kernel_rfl)) (fun _ h => by cases h)
                  exact step7_value (i := 74) rfl (wanted_at (j := 24) (d := 101) (b := false) rfl (by kernel_rfl) t101) (run_op_pick rfl t104 t150) (calm7 laterJ_later (by kernel_rfl) (by kernel_rfl) hj (later_refl _)) rfl
                · intro listed a W H hj hl hd
                  have t101 : a.tmps.getD 101 undef = .bool false := H.get 24 101 (by kernel_rfl) (dep_of hd 24 (by kernel_rfl)) (fun _ h => by cases h)
                  have t151 : a.tmps.getD 151 undef = .bool false := H.get 74 151 (by kernel_rfl) (dep_of hd 74 (by kernel_rfl)) (fun _ h => by cases h)
                  exact step7_value (i := 75) rfl rfl (run_op_pickF rfl t101 t151) (calm7 laterJ_later (by kernel_rfl) (by kernel_rfl) hj (later_refl _)) rfl
              · intro a WC hdef hsz hw hall hact
                obtain ⟨u, hu⟩ : ∃ u : Nat → Value, ∀ k, a.tmps.getD k undef = u k := ⟨_, fun _ => rfl⟩
                have h152 : u 152 = .bool false := by rw [← hu]; exact hall 75 _ rfl
                simp only [hu] at hact
                have hact' : a = ([77, 78, 79, 80, 81, 82, 83, 84, 85, 86, 87, 88, 89, 90, 91, 92, 93, 94, 95, 96, 97, 98, 99, 100, 101, 102, 103, 104, 105, 106, 107, 108, 109, 110, 111, 112, 113, 114, 115, 116, 117, 118, 119, 120, 121, 122, 123, 124, 125, 126, 127, 128, 129, 130, 131, 132, 133, 134, 135, 136, 137, 138, 139, 140, 141, 142, 143, 144, 145, 146, 147, 148, 149, 150, 151, 152] : List Nat).foldl (fun b k => b.put (some k) (u k)) _ := hact
                simp only [List.foldl] at hact'
                simp only [Act.put, List.setIfInBounds_toArray, List.set_cons_succ, List.set_cons_zero] at hact'
                have HAC := Lib.hid hact'
                have HX := Lib.hid hw
                clear hact hact' hall hdef hsz hw
                rw [h152] at HAC
                rw [HAC.out]
                have PC := Lib.hid (PD.out.since HX.out)
                have OC := Lib.hid (OD.out.since HX.out)
                have BC := Lib.hid (below_chain BD.out HX.out)
                clear PD OD BD HX HDL HWD hu h152
                go_wp2_with fail
                go_roundw
                case rel => exact ⟨i + 1, by go_num, by omega, PC, OC, BC⟩
                case measure => simp [intOf]; omega
            · have HEQ : Hid ((y == y2) = false) := by show _ = _; simpa using hye
              clear hlx hye HLX HIP hi0
              refine region_of_steps7 (by kernel_rfl) [some (.slice (some ado) m c1), some (.int .i64 (i : Int)), some (.pointer (some (ado.add i))), some (.int .i64 (e : Int)), some (.bool false), some (.bool false), some (.slice (some ado) m c1), some (.int .i64 (i : Int)), some (.pointer (some (ado.add i))), some (.int .i64 (e : Int)), some (.slice (some adw) k c5), some (.int .i64 (k : Int)), some (.bool false), some (.bool false), some (.bool false), some (.slice (some adc) k c6), some (.slice (some ado) m c1), some (.int .i64 (i : Int)), some (.pointer (some (ado.add i))), some (.int .i64 (e : Int)), some (.pointer (some (adc.add e))), some (.bool true), some (.bool false), some (.bool false), some (.bool false), some (.int .i64 (i : Int)), some (.bool true), some (.bool true), some (.slice (some adw) k c5), some (.slice (some ado) m c1), some (.int .i64 (i : Int)), some (.pointer (some (ado.add i))), some (.int .i64 (e : Int)), some (.pointer (some (adw.add e))), some (.int .i64 y), some (.slice (some adw) k c5), some (.slice (some ado) m c1), some (.int .i64 (i : Int)), some (.int .i64 (ip : Int)), some (.pointer (some (ado.add ip))), some (.int .i64 (e2 : Int)), some (.pointer (some (adw.add e2))), some (.int .i64 y2), some (.bool false), some (.bool false), some (.slice (some adw) k c5), some (.slice (some ado) m c1), some (.int .i64 (i : Int)), some (.pointer (some (ado.add i))), some (.int .i64 (e : Int)), some (.pointer (some (adw.add e))), some (.int .i64 y), some (.slice (some adw) k c5), some (.slice (some ado) m c1), some (.int .i64 (i : Int)), some (.int .i64 (ip : Int)), some (.pointer (some (ado.add ip))), some (.int .i64 (e2 : Int)), some (.pointer (some (adw.add e2))), some (.int .i64 y2), some (.bool false), some (.bool false), some undef, some undef, some undef, some undef, some undef, some undef, some undef, some undef, some undef, some undef, some (.bool false), some (.bool false), some (.bool false), some (.bool false)] [] [] (LaterJ WD) (by kernel_rfl) (by kernel_rfl) (by rw [← HWD.out]; exact Below.refl _ _) ?_ ?_
              · refine Steps7.cons ?_ (Steps7.cons ?_ (Steps7.cons ?_ (Steps7.cons ?_ (Steps7.cons ?_ (Steps7.cons ?_ (Steps7.cons ?_ (Steps7.cons ?_ (Steps7.cons ?_ (Steps7.cons ?_ (Steps7.cons ?_ (Steps7.cons ?_ (Steps7.cons ?_ (Steps7.cons ?_ (Steps7.cons ?_ (Steps7.cons ?_ (Steps7.cons ?_ (Steps7.cons ?_ (Steps7.cons ?_ (Steps7.cons ?_ (Steps7.cons ?_ (Steps7.cons ?_ (Steps7.cons ?_ (Steps7.cons ?_ (Steps7.cons ?_ (Steps7.cons ?_ (Steps7.cons ?_ (Steps7.cons ?_ (Steps7.cons ?_ (Steps7.cons ?_ (Steps7.cons ?_ (Steps7.cons ?_ (Steps7.cons ?_ (Steps7.cons ?_ (Steps7.cons ?_ (Steps7.cons ?_ (Steps7.cons ?_ (Steps7.cons ?_ (Steps7.cons ?_ (Steps7.cons ?_ (Steps7.cons ?_ (Steps7.cons ?_ (Steps7.cons ?_ (Steps7.cons ?_ (Steps7.cons ?_ (Steps7.cons ?_ (Steps7.cons ?_ (Steps7.cons ?_ (Steps7.cons ?_ (Steps7.cons ?_ (Steps7.cons ?_ (Steps7.cons ?_ (Steps7.cons ?_ (Steps7.cons ?_ (Steps7.cons ?_ (Steps7.cons ?_ (Steps7.cons ?_ (Steps7.cons ?_ (Steps7.cons ?_ (Steps7.cons ?_ (Steps7.cons ?_ (Steps7.cons ?_ (Steps7.cons ?_ (Steps7.cons ?_ (Steps7.cons ?_ (Steps7.cons ?_ (Steps7.cons ?_ (Steps7.cons ?_ (Steps7.cons ?_ (Steps7.cons ?_ (Steps7.cons ?_ (Steps7.cons ?_ (Steps7.cons ?_ (Steps7.cons ?_ (Steps7.cons ?_ (Steps7.cons ?_ (Steps7.nil))))))))))))))))))))))))))))))))))))))))))))))))))))))))))))))))))))))))))))
                · intro listed a W H hj hl hd
                  have t9 : a.tmps.getD 9 undef = .slice (some ado) m c1 := (H.old 9 (by kernel_rfl)).trans rfl
                  exact step7_value (i := 0) rfl rfl (run_op_move rfl t9) (calm7 laterJ_later (by kernel_rfl) (by kernel_rfl) hj (later_refl _)) rfl
                · intro listed a W H hj hl hd
                  have t10 : a.tmps.getD 10 undef = .int .i64 (i : Int) := (H.old 10 (by kernel_rfl)).trans rfl
                  exact step7_value (i := 1) rfl rfl (run_op_move rfl t10) (calm7 laterJ_later (by kernel_rfl) (by kernel_rfl) hj (later_refl _)) rfl
                · intro listed a W H hj hl hd
                  have t77 : a.tmps.getD 77 undef = .slice (some ado) m c1 := H.get 0 77 (by kernel_rfl) (dep_of hd 0 (by kernel_rfl)) (fun _ h => by cases h)
                  have t78 : a.tmps.getD 78 undef = .int .i64 (i : Int) := H.get 1 78 (by kernel_rfl) (dep_of hd 1 (by kernel_rfl)) (fun _ h => by cases h)
                  exact step7_value (i := 2) rfl rfl (run_op_index rfl t77 t78 (run_index_i ado m c1 i hlt W)) (calm7 laterJ_later (by kernel_rfl) (by kernel_rfl) hj (later_refl _)) rfl
                · intro listed a W H hj hl hd
                  have t79 : a.tmps.getD 79 undef = .pointer (some (ado.add i)) := H.get 2 79 (by kernel_rfl) (dep_of hd 2 (by kernel_rfl)) (fun _ h => by cases h)
                  exact step7_value (i := 3) rfl rfl (run_op_load rfl t79 (run_load_int _ _ W (later_cell hj g1))) (calm7 laterJ_later (by kernel_rfl) (by kernel_rfl) hj (later_refl _)) rfl
                · intro listed a W H hj hl hd
                  have t80 : a.tmps.getD 80 undef = .int .i64 (e : Int) := H.get 3 80 (by kernel_rfl) (dep_of hd 3 (by kernel_rfl)) (fun _ h => by cases h)
                  exact step7_value (i := 4) rfl rfl (run_op_bin rfl t80 rfl (bin_lss _ _ _ (e : Int) 0 false D1)) (calm7 laterJ_later (by kernel_rfl) (by kernel_rfl) hj (later_refl _)) rfl
                · intro listed a W H hj hl hd
                  have t81 : a.tmps.getD 81 undef = .bool false := H.get 4 81 (by kernel_rfl) (dep_of hd 4 (by kernel_rfl)) (fun _ h => by cases h)
                  exact step7_value (i := 5) rfl rfl (run_op_move rfl t81) (calm7 laterJ_later (by kernel_rfl) (by kernel_rfl) hj (later_refl _)) rfl
                · intro listed a W H hj hl hd
                  have t82 : a.tmps.getD 82 undef = .bool false := H.get 5 82 (by kernel_rfl) (dep_of hd 5 (by kernel_rfl)) (fun _ h => by cases h)
                  have t9 : a.tmps.getD 9 undef = .slice (some ado) m c1 := (H.old 9 (by kernel_rfl)).trans rfl
                  exact step7_value (i := 6) rfl (wanted_at (j := 5) (d := 82) (b := false) rfl (by kernel_rfl) t82) (run_op_move rfl t9) (calm7 laterJ_later (by kernel_rfl) (by kernel_rfl) hj (later_refl _)) rfl
                · intro listed a W H hj hl hd
                  have t82 : a.tmps.getD 82 undef = .bool false := H.get 5 82 (by kernel_rfl) (dep_of hd 5 (by kernel_rfl)) (fun _ h => by cases h)
                  have t10 : a.tmps.getD 10 undef = .int .i64 (i : Int) := (H.old 10 (by kernel_rfl)).trans rfl
                  exact step7_value (i := 7) rfl (wanted_at (j := 5) (d := 82) (b := false) rfl (by kernel_rfl) t82) (run_op_move rfl t10) (calm7 laterJ_later (by kernel_rfl) (by kernel_rfl) hj (later_refl _)) rfl
                · intro listed a W H hj hl hd
                  have t82 : a.tmps.getD 82 undef = .bool false := H.get 5 82 (by kernel_rfl) (dep_of hd 5 (by kernel_rfl)) (fun _ h => by cases h)
                  have t83 : a.tmps.getD 83 undef = .slice (some ado) m c1 := H.get 6 83 (by kernel_rfl) (dep_of hd 6 (by kernel_rfl)) (fun _ h => by cases h)
                  have t84 : a.tmps.getD 84 undef = .int .i64 (i : Int) := H.get 7 84 (by kernel_rfl) (dep_of hd 7 (by kernel_rfl)) (fun _ h => by cases h)
                  exact step7_value (i := 8) rfl (wanted_at (j := 5) (d := 82) (b := false) rfl (by kernel_rfl) t82) (run_op_index rfl t83 t84 (run_index_i ado m c1 i hlt W)) (calm7 laterJ_later (by kernel_rfl) (by kernel_rfl) hj (later_refl _)) rfl
                · intro listed a W H hj hl hd
                  have t82 : a.tmps.getD 82 undef = .bool false := H.get 5 82 (by kernel_rfl) (dep_of hd 5 (by kernel_rfl)) (fun _ h => by cases h)
                  have t85 : a.tmps.getD 85 undef = .pointer (some (ado.add i)) := H.get 8 85 (by kernel_rfl) (dep_of hd 8 (by kernel_rfl)) (fun _ h => by cases h)
                  exact step7_value (i := 9) rfl (wanted_at (j := 5) (d := 82) (b := false) rfl (by kernel_rfl) t82) (run_op_load rfl t85 (run_load_int _ _ W (later_cell hj g1))) (calm7 laterJ_later (by kernel_rfl) (by kernel_rfl) hj (later_refl _)) rfl
                · intro listed a W H hj hl hd
                  have t82 : a.tmps.getD 82 undef = .bool false := H.get 5 82 (by kernel_rfl) (dep_of hd 5 (by kernel_rfl)) (fun _ h => by cases h)
                  have t5 : a.tmps.getD 5 undef = .slice (some adw) k c5 := (H.old 5 (by kernel_rfl)).trans rfl
                  exact step7_value (i := 10) rfl (wanted_at (j := 5) (d := 82) (b := false) rfl (by kernel_rfl) t82) (run_op_move rfl t5) (calm7 laterJ_later (by kernel_rfl) (by kernel_rfl) hj (later_refl _)) rfl
                · intro listed a W H hj hl hd
                  have t82 : a.tmps.getD 82 undef = .bool false := H.get 5 82 (by kernel_rfl) (dep_of hd 5 (by kernel_rfl)) (fun _ h => by cases h)
                  have t87 : a.tmps.getD 87 undef = .slice (some adw) k c5 := H.get 10 87 (by kernel_rfl) (dep_of hd 10 (by kernel_rfl)) (fun _ h => by cases h)
                  exact step7_value (i := 11) rfl (wanted_at (j := 5) (d := 82) (b := false) rfl (by kernel_rfl) t82) (run_op_len Try.underlying22 rfl t87) (calm7 laterJ_later (by kernel_rfl) (by kernel_rfl) hj (later_refl _)) rfl
                · intro listed a W H hj hl hd
                  have t82 : a.tmps.getD 82 undef = .bool false := H.get 5 82 (by kernel_rfl) (dep_of hd 5 (by kernel_rfl)) (fun _ h => by cases h)
                  have t86 : a.tmps.getD 86 undef = .int .i64 (e : Int) := H.get 9 86 (by kernel_rfl) (dep_of hd 9 (by kernel_rfl)) (fun _ h => by cases h)
                  have t88 : a.tmps.getD 88 undef = .int .i64 (k : Int) := H.get 11 88 (by kernel_rfl) (dep_of hd 11 (by kernel_rfl)) (fun _ h => by cases h)
                  exact step7_value (i := 12) rfl (wanted_at (j := 5) (d := 82) (b := false) rfl (by kernel_rfl) t82) (run_op_bin rfl t86 t88 (bin_geq _ _ _ (e : Int) (k : Int) false D2)) (calm7 laterJ_later (by kernel_rfl) (by kernel_rfl) hj (later_refl _)) rfl
                · intro listed a W H hj hl hd
                  have t82 : a.tmps.getD 82 undef = .bool false := H.get 5 82 (by kernel_rfl) (dep_of hd 5 (by kernel_rfl)) (fun _ h => by cases h)
                  have t89 : a.tmps.getD 89 undef = .bool false := H.get 12 89 (by kernel_rfl) (dep_of hd 12 (by kernel_rfl)) (fun _ h => by cases h)
                  exact step7_value (i := 13) rfl rfl (run_op_pickF rfl t82 t89) (calm7 laterJ_later (by kernel_rfl) (by kernel_rfl) hj (later_refl _)) rfl
                · intro listed a W H hj hl hd
                  have t90 : a.tmps.getD 90 undef = .bool false := H.get 13 90 (by kernel_rfl) (dep_of hd 13 (by kernel_rfl)) (fun _ h => by cases h)
                  exact step7_value (i := 14) rfl rfl (run_op_move rfl t90) (calm7 laterJ_later (by kernel_rfl) (by kernel_rfl) hj (later_refl _)) rfl
                · intro listed a W H hj hl hd
                  have t91 : a.tmps.getD 91 undef = .bool false := H.get 14 91 (by kernel_rfl) (dep_of hd 14 (by kernel_rfl)) (fun _ h => by cases h)
                  have t6 : a.tmps.getD 6 undef = .slice (some adc) k c6 := (H.old 6 (by kernel_rfl)).trans rfl
                  exact step7_value (i := 15) rfl (wanted_at (j := 14) (d := 91) (b := false) rfl (by kernel_rfl) t91) (run_op_move rfl t6) (calm7 laterJ_later (by kernel_rfl) (by kernel_rfl) hj (later_refl _)) rfl
                · intro listed a W H hj hl hd
                  have t91 : a.tmps.getD 91 undef = .bool false := H.get 14 91 (by kernel_rfl) (dep_of hd 14 (by kernel_rfl)) (fun _ h => by cases h)
                  have t9 : a.tmps.getD 9 undef = .slice (some ado) m c1 := (H.old 9 (by kernel_rfl)).trans rfl
                  exact step7_value (i := 16) rfl (wanted_at (j := 14) (d := 91) (b := false) rfl (by kernel_rfl) t91) (run_op_move rfl t9) (calm7 laterJ_later (by kernel_rfl) (by kernel_rfl) hj (later_refl _)) rfl
                · intro listed a W H hj hl hd
                  have t91 : a.tmps.getD 91 undef = .bool false := H.get 14 91 (by kernel_rfl) (dep_of hd 14 (by kernel_rfl)) (fun _ h => by cases h)
                  have t10 : a.tmps.getD 10 undef = .int .i64 (i : Int) := (H.old 10 (by kernel_rfl)).trans rfl
                  exact step7_value (i := 17) rfl (wanted_at (j := 14) (d := 91) (b := false) rfl (by kernel_rfl) t91) (run_op_move rfl t10) (calm7 laterJ_later (by kernel_rfl) (by kernel_rfl) hj (later_refl _)) rfl
                · intro listed a W H hj hl hd
                  have t91 : a.tmps.getD 91 undef = .bool false := H.get 14 91 (by kernel_rfl) (dep_of hd 14 (by kernel_rfl)) (fun _ h => by cases h)
                  have t93 : a.tmps.getD 93 undef = .slice (some ado) m c1 := H.get 16 93 (by kernel_rfl) (dep_of hd 16 (by kernel_rfl)) (fun _ h => by cases h)
                  have t94 : a.tmps.getD 94 undef = .int .i64 (i : Int) := H.get 17 94 (by kernel_rfl) (dep_of hd 17 (by kernel_rfl)) (fun _ h => by cases h)
                  exact step7_value (i := 18) rfl (wanted_at (j := 14) (d := 91) (b := false) rfl (by kernel_rfl) t91) (run_op_index rfl t93 t94 (run_index_i ado m c1 i hlt W)) (calm7 laterJ_later (by kernel_rfl) (by kernel_rfl) hj (later_refl _)) rfl
                · intro listed a W H hj hl hd
                  have t91 : a.tmps.getD 91 undef = .bool false := H.get 14 91 (by kernel_rfl) (dep_of hd 14 (by kernel_rfl)) (fun _ h => by cases h)
                  have t95 : a.tmps.getD 95 undef = .pointer (some (ado.add i)) := H.get 18 95 (by kernel_rfl) (dep_of hd 18 (by kernel_rfl)) (fun _ h => by cases h)
                  exact step7_value (i := 19) rfl (wanted_at (j := 14) (d := 91) (b := false) rfl (by kernel_rfl) t91) (run_op_load rfl t95 (run_load_int _ _ W (later_cell hj g1))) (calm7 laterJ_later (by kernel_rfl) (by kernel_rfl) hj (later_refl _)) rfl
                · intro listed a W H hj hl hd
                  have t91 : a.tmps.getD 91 undef = .bool false := H.get 14 91 (by kernel_rfl) (dep_of hd 14 (by kernel_rfl)) (fun _ h => by cases h)
                  have t92 : a.tmps.getD 92 undef = .slice (some adc) k c6 := H.get 15 92 (by kernel_rfl) (dep_of hd 15 (by kernel_rfl)) (fun _ h => by cases h)
                  have t96 : a.tmps.getD 96 undef = .int .i64 (e : Int) := H.get 19 96 (by kernel_rfl) (dep_of hd 19 (by kernel_rfl)) (fun _ h => by cases h)
                  exact step7_value (i := 20) rfl (wanted_at (j := 14) (d := 91) (b := false) rfl (by kernel_rfl) t91) (run_op_index rfl t92 t96 (run_index_b adc k c6 e hek W)) (calm7 laterJ_later (by kernel_rfl) (by kernel_rfl) hj (later_refl _)) rfl
                · intro listed a W H hj hl hd
                  have t91 : a.tmps.getD 91 undef = .bool false := H.get 14 91 (by kernel_rfl) (dep_of hd 14 (by kernel_rfl)) (fun _ h => by cases h)
                  have t97 : a.tmps.getD 97 undef = .pointer (some (adc.add e)) := H.get 20 97 (by kernel_rfl) (dep_of hd 20 (by kernel_rfl)) (fun _ h => by cases h)
                  exact step7_value (i := 21) rfl (wanted_at (j := 14) (d := 91) (b := false) rfl (by kernel_rfl) t91) (run_op_load rfl t97 (run_load_bool _ _ W (later_cell hj g3))) (calm7 laterJ_later (by kernel_rfl) (by kernel_rfl) hj (later_refl _)) rfl
                · intro listed a W H hj hl hd
                  have t91 : a.tmps.getD 91 undef = .bool false := H.get 14 91 (by kernel_rfl) (dep_of hd 14 (by kernel_rfl)) (fun _ h => by cases h)
                  have t98 : a.tmps.getD 98 undef = .bool true := H.get 21 98 (by kernel_rfl) (dep_of hd 21 (by kernel_rfl)) (fun _ h => by cases h)
                  exact step7_value (i := 22) rfl (wanted_at (j := 14) (d := 91) (b := false) rfl (by kernel_rfl) t91) (run_op_not rfl t98) (calm7 laterJ_later (by kernel_rfl) (by kernel_rfl) hj (later_refl _)) rfl
                · intro listed a W H hj hl hd
                  have t91 : a.tmps.getD 91 undef = .bool false := H.get 14 91 (by kernel_rfl) (dep_of hd 14 (by kernel_rfl)) (fun _ h => by cases h)
                  have t99 : a.tmps.getD 99 undef = .bool false := H.get 22 99 (by kernel_rfl) (dep_of hd 22 (by kernel_rfl)) (fun _ h => by cases h)
                  exact step7_value (i := 23) rfl rfl (run_op_pickF rfl t91 t99) (calm7 laterJ_later (by kernel_rfl) (by kernel_rfl) hj (later_refl _)) rfl
                · intro listed a W H hj hl hd
                  have t100 : a.tmps.getD 100 undef = .bool false := H.get 23 100 (by kernel_rfl) (dep_of hd 23 (by kernel_rfl)) (fun _ h => by cases h)
                  exact step7_value (i := 24) rfl rfl (run_op_move rfl t100) (calm7 laterJ_later (by kernel_rfl) (by kernel_rfl) hj (later_refl _)) rfl
                · intro listed a W H hj hl hd
                  have t101 : a.tmps.getD 101 undef = .bool false := H.get 24 101 (by kernel_rfl) (dep_of hd 24 (by kernel_rfl)) (fun _ h => by cases h)
                  have t10 : a.tmps.getD 10 undef = .int .i64 (i : Int) := (H.old 10 (by kernel_rfl)).trans rfl
                  exact step7_value (i := 25) rfl (wanted_at (j := 24) (d := 101) (b := false) rfl (by kernel_rfl) t101) (run_op_move rfl t10) (calm7 laterJ_later (by kernel_rfl) (by kernel_rfl) hj (later_refl _)) rfl
                · intro listed a W H hj hl hd
                  have t101 : a.tmps.getD 101 undef = .bool false := H.get 24 101 (by kernel_rfl) (dep_of hd 24 (by kernel_rfl)) (fun _ h => by cases h)
                  have t102 : a.tmps.getD 102 undef = .int .i64 (i : Int) := H.get 25 102 (by kernel_rfl) (dep_of hd 25 (by kernel_rfl)) (fun _ h => by cases h)
                  exact step7_value (i := 26) rfl (wanted_at (j := 24) (d := 101) (b := false) rfl (by kernel_rfl) t101) (run_op_bin rfl t102 rfl (bin_gtr _ _ _ (i : Int) 0 true D0)) (calm7 laterJ_later (by kernel_rfl) (by kernel_rfl) hj (later_refl _)) rfl
                · intro listed a W H hj hl hd
                  have t101 : a.tmps.getD 101 undef = .bool false := H.get 24 101 (by kernel_rfl) (dep_of hd 24 (by kernel_rfl)) (fun _ h => by cases h)
                  have t103 : a.tmps.getD 103 undef = .bool true := H.get 26 103 (by kernel_rfl) (dep_of hd 26 (by kernel_rfl)) (fun _ h => by cases h)
                  exact step7_value (i := 27) rfl (wanted_at (j := 24) (d := 101) (b := false) rfl (by kernel_rfl) t101) (run_op_move rfl t103) (calm7 laterJ_later (by kernel_rfl) (by kernel_rfl) hj (later_refl _)) rfl
                · intro listed a W H hj hl hd
                  have t104 : a.tmps.getD 104 undef = .bool true := H.get 27 104 (by kernel_rfl) (dep_of hd 27 (by kernel_rfl)) (fun _ h => by cases h)
                  have t5 : a.tmps.getD 5 undef = .slice (some adw) k c5 := (H.old 5 (by kernel_rfl)).trans rfl
                  exact step7_value (i := 28) rfl (wanted_at (j := 27) (d := 104) (b := true) rfl (by kernel_rfl) t104) (run_op_move rfl t5) (calm7 laterJ_later (by kernel_rfl) (by kernel_rfl) hj (later_refl _)) rfl
                · intro listed a W H hj hl hd
                  have t104 : a.tmps.getD 104 undef = .bool true := H.get 27 104 (by kernel_rfl) (dep_of hd 27 (by kernel_rfl)) (fun _ h => by cases h)
                  have t9 : a.tmps.getD 9 undef = .slice (some ado) m c1 := (H.old 9 (by kernel_rfl)).trans rfl
                  exact step7_value (i := 29) rfl (wanted_at (j := 27) (d := 104) (b := true) rfl (by kernel_rfl) t104) (run_op_move rfl t9) (calm7 laterJ_later (by kernel_rfl) (by kernel_rfl) hj (later_refl _)) rfl
                · intro listed a W H hj hl hd
                  have t104 : a.tmps.getD 104 undef = .bool true := H.get 27 104 (by kernel_rfl) (dep_of hd 27 (by kernel_rfl)) (fun _ h => by cases h)
                  have t10 : a.tmps.getD 10 undef = .int .i64 (i : Int) := (H.old 10 (by kernel_rfl)).trans rfl
                  exact step7_value (i := 30) rfl (wanted_at (j := 27) (d := 104) (b := true) rfl (by kernel_rfl) t104) (run_op_move rfl t10) (calm7 laterJ_later (by kernel_rfl) (by kernel_rfl) hj (later_refl _)) rfl
                · intro listed a W H hj hl hd
                  have t104 : a.tmps.getD 104 undef = .bool true := H.get 27 104 (by kernel_rfl) (dep_of hd 27 (by kernel_rfl)) (fun _ h => by cases h)
                  have t106 : a.tmps.getD 106 undef = .slice (some ado) m c1 := H.get 29 106 (by kernel_rfl) (dep_of hd 29 (by kernel_rfl)) (fun _ h => by cases h)
                  have t107 : a.tmps.getD 107 undef = .int .i64 (i : Int) := H.get 30 107 (by kernel_rfl) (dep_of hd 30 (by kernel_rfl)) (fun _ h => by cases h)
                  exact step7_value (i := 31) rfl (wanted_at (j := 27) (d := 104) (b := true) rfl (by kernel_rfl) t104) (run_op_index rfl t106 t107 (run_index_i ado m c1 i hlt W)) (calm7 laterJ_later (by kernel_rfl) (by kernel_rfl) hj (later_refl _)) rfl
                · intro listed a W H hj hl hd
                  have t104 : a.tmps.getD 104 undef = .bool true := H.get 27 104 (by kernel_rfl) (dep_of hd 27 (by kernel_rfl)) (fun _ h => by cases h)
                  have t108 : a.tmps.getD 108 undef = .pointer (some (ado.add i)) := H.get 31 108 (by kernel_rfl) (dep_of hd 31 (by kernel_rfl)) (fun _ h => by cases h)
                  exact step7_value (i := 32) rfl (wanted_at (j := 27) (d := 104) (b := true) rfl (by kernel_rfl) t104) (run_op_load rfl t108 (run_load_int _ _ W (later_cell hj g1))) (calm7 laterJ_later (by kernel_rfl) (by kernel_rfl) hj (later_refl _)) rfl
                · intro listed a W H hj hl hd
                  have t104 : a.tmps.getD 104 undef = .bool true := H.get 27 104 (by kernel_rfl) (dep_of hd 27 (by kernel_rfl)) (fun _ h => by cases h)
                  have t105 : a.tmps.getD 105 undef = .slice (some adw) k c5 := H.get 28 105 (by kernel_rfl) (dep_of hd 28 (by kernel_rfl)) (fun _ h => by cases h)
                  have t109 : a.tmps.getD 109 undef = .int .i64 (e : Int) := H.get 32 109 (by kernel_rfl) (dep_of hd 32 (by kernel_rfl)) (fun _ h => by cases h)
                  exact step7_value (i := 33) rfl (wanted_at (j := 27) (d := 104) (b := true) rfl (by kernel_rfl) t104) (run_op_index rfl t105 t109 (run_index_i adw k c5 e hek W)) (calm7 laterJ_later (by kernel_rfl) (by kernel_rfl) hj (later_refl _)) rfl
                · intro listed a W H hj hl hd
                  have t104 : a.tmps.getD 104 undef = .bool true := H.get 27 104 (by kernel_rfl) (dep_of hd 27 (by kernel_rfl)) (fun _ h => by cases h)
                  have t110 : a.tmps.getD 110 undef = .pointer (some (adw.add e)) := H.get 33 110 (by kernel_rfl) (dep_of hd 33 (by kernel_rfl)) (fun _ h => by cases h)
                  exact step7_value (i := 34) rfl (wanted_at (j := 27) (d := 104) (b := true) rfl (by kernel_rfl) t104) (run_op_load rfl t110 (run_load_int _ _ W (later_cell hj g2))) (calm7 laterJ_later (by kernel_rfl) (by kernel_rfl) hj (later_refl _)) rfl
                · intro listed a W H hj hl hd
                  have t104 : a.tmps.getD 104 undef = .bool true := H.get 27 104 (by kernel_rfl) (dep_of hd 27 (by kernel_rfl)) (fun _ h => by cases h)
                  have t5 : a.tmps.getD 5 undef = .slice (some adw) k c5 := (H.old 5 (by kernel_rfl)).trans rfl
                  exact step7_value (i := 35) rfl (wanted_at (j := 27) (d := 104) (b := true) rfl (by kernel_rfl) t104) (run_op_move rfl t5) (calm7 laterJ_later (by kernel_rfl) (by kernel_rfl) hj (later_refl _)) rfl
                · intro listed a W H hj hl hd
                  have t104 : a.tmps.getD 104 undef = .bool true := H.get 27 104 (by kernel_rfl) (dep_of hd 27 (by kernel_rfl)) (fun _ h => by cases h)
                  have t9 : a.tmps.getD 9 undef = .slice (some ado) m c1 := (H.old 9 (by kernel_rfl)).trans rfl
                  exact step7_value (i := 36) rfl (wanted_at (j := 27) (d := 104) (b := true) rfl (by kernel_rfl) t104) (run_op_move rfl t9) (calm7 laterJ_later (by kernel_rfl) (by kernel_rfl) hj (later_refl _)) rfl
                · intro listed a W H hj hl hd
                  have t104 : a.tmps.getD 104 undef = .bool true := H.get 27 104 (by kernel_rfl) (dep_of hd 27 (by kernel_rfl)) (fun _ h => by cases h)
                  have t10 : a.tmps.getD 10 undef = .int .i64 (i : Int) := (H.old 10 (by kernel_rfl)).trans rfl
                  exact step7_value (i := 37) rfl (wanted_at (j := 27) (d := 104) (b := true) rfl (by kernel_rfl) t104) (run_op_move rfl t10) (calm7 laterJ_later (by kernel_rfl) (by kernel_rfl) hj (later_refl _)) rfl
                · intro listed a W H hj hl hd
                  have t104 : a.tmps.getD 104 undef = .bool true := H.get 27 104 (by kernel_rfl) (dep_of hd 27 (by kernel_rfl)) (fun _ h => by cases h)
                  have t114 : a.tmps.getD 114 undef = .int .i64 (i : Int) := H.get 37 114 (by kernel_rfl) (dep_of hd 37 (by kernel_rfl)) (fun _ h => by cases h)
                  exact step7_value (i := 38) rfl (wanted_at (j := 27) (d := 104) (b := true) rfl (by kernel_rfl) t104) (run_op_bin rfl t114 rfl (bin_sub _ _ _ (i : Int) 1 (ip : Int) HSUB.out (by omega) (by omega))) (calm7 laterJ_later (by kernel_rfl) (by kernel_rfl) hj (later_refl _)) rfl
                · intro listed a W H hj hl hd
                  have t104 : a.tmps.getD 104 undef = .bool true := H.get 27 104 (by kernel_rfl) (dep_of hd 27 (by kernel_rfl)) (fun _ h => by cases h)
                  have t113 : a.tmps.getD 113 undef = .slice (some ado) m c1 := H.get 36 113 (by kernel_rfl) (dep_of hd 36 (by kernel_rfl)) (fun _ h => by cases h)
                  have t115 : a.tmps.getD 115 undef = .int .i64 (ip : Int) := H.get 38 115 (by kernel_rfl) (dep_of hd 38 (by kernel_rfl)) (fun _ h => by cases h)
                  exact step7_value (i := 39) rfl (wanted_at (j := 27) (d := 104) (b := true) rfl (by kernel_rfl) t104) (run_op_index rfl t113 t115 (run_index_i ado m c1 ip hlt2 W)) (calm7 laterJ_later (by kernel_rfl) (by kernel_rfl) hj (later_refl _)) rfl
                · intro listed a W H hj hl hd
                  have t104 : a.tmps.getD 104 undef = .bool true := H.get 27 104 (by kernel_rfl) (dep_of hd 27 (by kernel_rfl)) (fun _ h => by cases h)
                  have t116 : a.tmps.getD 116 undef = .pointer (some (ado.add ip)) := H.get 39 116 (by kernel_rfl) (dep_of hd 39 (by kernel_rfl)) (fun _ h => by cases h)
                  exact step7_value (i := 40) rfl (wanted_at (j := 27) (d := 104) (b := true) rfl (by kernel_rfl) t104) (run_op_load rfl t116 (run_load_int _ _ W (later_cell hj g4))) (calm7 laterJ_later (by kernel_rfl) (by kernel_rfl) hj (later_refl _)) rfl
                · intro listed a W H hj hl hd
                  have t104 : a.tmps.getD 104 undef = .bool true := H.get 27 104 (by kernel_rfl) (dep_of hd 27 (by kernel_rfl)) (fun _ h => by cases h)
                  have t112 : a.tmps.getD 112 undef = .slice (some adw) k c5 := H.get 35 112 (by kernel_rfl) (dep_of hd 35 (by kernel_rfl)) (fun _ h => by cases h)
                  have t117 : a.tmps.getD 117 undef = .int .i64 (e2 : Int) := H.get 40 117 (by kernel_rfl) (dep_of hd 40 (by kernel_rfl)) (fun _ h => by cases h)
                  exact step7_value (i := 41) rfl (wanted_at (j := 27) (d := 104) (b := true) rfl (by kernel_rfl) t104) (run_op_index rfl t112 t117 (run_index_i adw k c5 e2 hek2 W)) (calm7 laterJ_later (by kernel_rfl) (by kernel_rfl) hj (later_refl _)) rfl
                · intro listed a W H hj hl hd
                  have t104 : a.tmps.getD 104 undef = .bool true := H.get 27 104 (by kernel_rfl) (dep_of hd 27 (by kernel_rfl)) (fun _ h => by cases h)
                  have t118 : a.tmps.getD 118 undef = .pointer (some (adw.add e2)) := H.get 41 118 (by kernel_rfl) (dep_of hd 41 (by kernel_rfl)) (fun _ h => by cases h)
                  exact step7_value (i := 42) rfl (wanted_at (j := 27) (d := 104) (b := true) rfl (by kernel_rfl) t104) (run_op_load rfl t118 (run_load_int _ _ W (later_cell hj g5))) (calm7 laterJ_later (by kernel_rfl) (by kernel_rfl) hj (later_refl _)) rfl
                · intro listed a W H hj hl hd
                  have t104 : a.tmps.getD 104 undef = .bool true := H.get 27 104 (by kernel_rfl) (dep_of hd 27 (by kernel_rfl)) (fun _ h => by cases h)
                  have t111 : a.tmps.getD 111 undef = .int .i64 y := H.get 34 111 (by kernel_rfl) (dep_of hd 34 (by kernel_rfl)) (fun _ h => by cases h)
                  have t119 : a.tmps.getD 119 undef = .int .i64 y2 := H.get 42 119 (by kernel_rfl) (dep_of hd 42 (by kernel_rfl)) (fun _ h => by cases h)
                  exact step7_value (i := 43) rfl (wanted_at (j := 27) (d := 104) (b := true) rfl (by kernel_rfl) t104) (run_op_bin rfl t111 t119 (bin_lss _ _ _ y y2 false D3)) (calm7 laterJ_later (by kernel_rfl) (by kernel_rfl) hj (later_refl _)) rfl
                · intro listed a W H hj hl hd
                  have t104 : a.tmps.getD 104 undef = .bool true := H.get 27 104 (by kernel_rfl) (dep_of hd 27 (by kernel_rfl)) (fun _ h => by cases h)
                  have t120 : a.tmps.getD 120 undef = .bool false := H.get 43 120 (by kernel_rfl) (dep_of hd 43 (by kernel_rfl)) (fun _ h => by cases h)
                  exact step7_value (i := 44) rfl (wanted_at (j := 27) (d := 104) (b := true) rfl (by kernel_rfl) t104) (run_op_move rfl t120) (calm7 laterJ_later (by kernel_rfl) (by kernel_rfl) hj (later_refl _)) rfl
                · intro listed a W H hj hl hd
                  have t121 : a.tmps.getD 121 undef = .bool false := H.get 44 121 (by kernel_rfl) (dep_of hd 44 (by kernel_rfl)) (fun _ h => by cases h)
                  have t5 : a.tmps.getD 5 undef = .slice (some adw) k c5 := (H.old 5 (by kernel_rfl)).trans rfl
                  exact step7_value (i := 45) rfl (wanted_at (j := 44) (d := 121) (b := false) rfl (by kernel_rfl) t121) (run_op_move rfl t5) (calm7 laterJ_later (by kernel_rfl) (by kernel_rfl) hj (later_refl _)) rfl
                · intro listed a W H hj hl hd
                  have t121 : a.tmps.getD 121 undef = .bool false := H.get 44 121 (by kernel_rfl) (dep_of hd 44 (by kernel_rfl)) (fun _ h => by cases h)
                  have t9 : a.tmps.getD 9 undef = .slice (some ado) m c1 := (H.old 9 (by kernel_rfl)).trans rfl
                  exact step7_value (i := 46) rfl (wanted_at (j := 44) (d := 121) (b := false) rfl (by kernel_rfl) t121) (run_op_move rfl t9) (calm7 laterJ_later (by kernel_rfl) (by kernel_rfl) hj (later_refl _)) rfl
                · intro listed a W H hj hl hd
                  have t121 : a.tmps.getD 121 undef = .bool false := H.get 44 121 (by kernel_rfl) (dep_of hd 44 (by kernel_rfl)) (fun _ h => by cases h)
                  have t10 : a.tmps.getD 10 undef = .int .i64 (i : Int) := (H.old 10 (by kernel_rfl)).trans rfl
                  exact step7_value (i := 47) rfl (wanted_at (j := 44) (d := 121) (b := false) rfl (by kernel_rfl) t121) (run_op_move rfl t10) (calm7 laterJ_later (by kernel_rfl) (by kernel_rfl) hj (later_refl _)) rfl
                · intro listed a W H hj hl hd
                  have t121 : a.tmps.getD 121 undef = .bool false := H.get 44 121 (by kernel_rfl) (dep_of hd 44 (by kernel_rfl)) (fun _ h => by cases h)
                  have t123 : a.tmps.getD 123 undef = .slice (some ado) m c1 := H.get 46 123 (by kernel_rfl) (dep_of hd 46 (by kernel_rfl)) (fun _ h => by cases h)
                  have t124 : a.tmps.getD 124 undef = .int .i64 (i : Int) := H.get 47 124 (by kernel_rfl) (dep_of hd 47 (by kernel_rfl)) (fun _ h => by cases h)
                  exact step7_value (i := 48) rfl (wanted_at (j := 44) (d := 121) (b := false) rfl (by kernel_rfl) t121) (run_op_index rfl t123 t124 (run_index_i ado m c1 i hlt W)) (calm7 laterJ_later (by kernel_rfl) (by kernel_rfl) hj (later_refl _)) rfl
                · intro listed a W H hj hl hd
                  have t121 : a.tmps.getD 121 undef = .bool false := H.get 44 121 (by kernel_rfl) (dep_of hd 44 (by kernel_rfl)) (fun _ h => by cases h)
                  have t125 : a.tmps.getD 125 undef = .pointer (some (ado.add i)) := H.get 48 125 (by kernel_rfl) (dep_of hd 48 (by kernel_rfl)) (fun _ h => by cases h)
                  exact step7_value (i := 49) rfl (wanted_at (j := 44) (d := 121) (b := false) rfl (by kernel_rfl) t121) (run_op_load rfl t125 (run_load_int _ _ W (later_cell hj g1))) (calm7 laterJ_later (by kernel_rfl) (by kernel_rfl) hj (later_refl _)) rfl
                · intro listed a W H hj hl hd
                  have t121 : a.tmps.getD 121 undef = .bool false := H.get 44 121 (by kernel_rfl) (dep_of hd 44 (by kernel_rfl)) (fun _ h => by cases h)
                  have t122 : a.tmps.getD 122 undef = .slice (some adw) k c5 := H.get 45 122 (by kernel_rfl) (dep_of hd 45 (by kernel_rfl)) (fun _ h => by cases h)
                  have t126 : a.tmps.getD 126 undef = .int .i64 (e : Int) := H.get 49 126 (by kernel_rfl) (dep_of hd 49 (by kernel_rfl)) (fun _ h => by cases h)
                  exact step7_value (i := 50) rfl (wanted_at (j := 44) (d := 121) (b := false) rfl (by kernel_rfl) t121) (run_op_index rfl t122 t126 (run_index_i adw k c5 e hek W)) (calm7 laterJ_later (by kernel_rfl) (by kernel_rfl) hj (later_refl _)) rfl
                · intro listed a W H hj hl hd
                  have t121 : a.tmps.getD 121 undef = .bool false := H.get 44 121 (by kernel_rfl) (dep_of hd 44 (by kernel_rfl)) (fun _ h => by cases h)
                  have t127 : a.tmps.getD 127 undef = .pointer (some (adw.add e)) := H.get 50 127 (by kernel_rfl) (dep_of hd 50 (by kernel_rfl)) (fun _ h => by cases h)
                  exact step7_value (i := 51) rfl (wanted_at (j := 44) (d := 121) (b := false) rfl (by kernel_rfl) t121) (run_op_load rfl t127 (run_load_int _ _ W (later_cell hj g2))) (calm7 laterJ_later (by kernel_rfl) (by kernel_rfl) hj (later_refl _)) rfl
                · intro listed a W H hj hl hd
                  have t121 : a.tmps.getD 121 undef = .bool false := H.get 44 121 (by kernel_rfl) (dep_of hd 44 (by kernel_rfl)) (fun _ h => by cases h)
                  have t5 : a.tmps.getD 5 undef = .slice (some adw) k c5 := (H.old 5 (by kernel_rfl)).trans rfl
                  exact step7_value (i := 52) rfl (wanted_at (j := 44) (d := 121) (b := false) rfl (by kernel_rfl) t121) (run_op_move rfl t5) (calm7 laterJ_later (by kernel_rfl) (by kernel_rfl) hj (later_refl _)) rfl
                · intro listed a W H hj hl hd
                  have t121 : a.tmps.getD 121 undef = .bool false := H.get 44 121 (by kernel_rfl) (dep_of hd 44 (by kernel_rfl)) (fun _ h => by cases h)
                  have t9 : a.tmps.getD 9 undef = .slice (some ado) m c1 := (H.old 9 (by kernel_rfl)).trans rfl
                  exact step7_value (i := 53) rfl (wanted_at (j := 44) (d := 121) (b := false) rfl (by kernel_rfl) t121) (run_op_move rfl t9) (calm7 laterJ_later (by kernel_rfl) (by kernel_rfl) hj (later_refl _)) rfl
                · intro listed a W H hj hl hd
                  have t121 : a.tmps.getD 121 undef = .bool false := H.get 44 121 (by kernel_rfl) (dep_of hd 44 (by kernel_rfl)) (fun _ h => by cases h)
                  have t10 : a.tmps.getD 10 undef = .int .i64 (i : Int) := (H.old 10 (by kernel_rfl)).trans rfl
                  exact step7_value (i := 54) rfl (wanted_at (j := 44) (d := 121) (b := false) rfl (by kernel_rfl) t121) (run_op_move rfl t10) (calm7 laterJ_later (by kernel_rfl) (by kernel_rfl) hj (later_refl _)) rfl
                · intro listed a W H hj hl hd
                  have t121 : a.tmps.getD 121 undef = .bool false := H.get 44 121 (by kernel_rfl) (dep_of hd 44 (by kernel_rfl)) (fun _ h => by cases h)
                  have t131 : a.tmps.getD 131 undef = .int .i64 (i : Int) := H.get 54 131 (by kernel_rfl) (dep_of hd 54 (by kernel_rfl)) (fun _ h => by cases h)
                  exact step7_value (i := 55) rfl (wanted_at (j := 44) (d := 121) (b := false) rfl (by kernel_rfl) t121) (run_op_bin rfl t131 rfl (bin_sub _ _ _ (i : Int) 1 (ip : Int) HSUB.out (by omega) (by omega))) (calm7 laterJ_later (by kernel_rfl) (by kernel_rfl) hj (later_refl _)) rfl
                · intro listed a W H hj hl hd
                  have t121 : a.tmps.getD 121 undef = .bool false := H.get 44 121 (by kernel_rfl) (dep_of hd 44 (by kernel_rfl)) (fun _ h => by cases h)
                  have t130 : a.tmps.getD 130 undef = .slice (some ado) m c1 := H.get 53 130 (by kernel_rfl) (dep_of hd 53 (by kernel_rfl)) (fun _ h => by cases h)
                  have t132 : a.tmps.getD 132 undef = .int .i64 (ip : Int) := H.get 55 132 (by kernel_rfl) (dep_of hd 55 (by kernel_rfl)) (fun _ h => by cases h)
                  exact step7_value (i := 56) rfl (wanted_at (j := 44) (d := 121) (b := false) rfl (by kernel_rfl) t121) (run_op_index rfl t130 t132 (run_index_i ado m c1 ip hlt2 W)) (calm7 laterJ_later (by kernel_rfl) (by kernel_rfl) hj (later_refl _)) rfl
                · intro listed a W H hj hl hd
                  have t121 : a.tmps.getD 121 undef = .bool false := H.get 44 121 (by kernel_rfl) (dep_of hd 44 (by kernel_rfl)) (fun _ h => by cases h)
                  have t133 : a.tmps.getD 133 undef = .pointer (some (ado.add ip)) := H.get 56 133 (by kernel_rfl) (dep_of hd 56 (by kernel_rfl)) (fun _ h => by cases h)
                  exact step7_value (i := 57) rfl (wanted_at (j := 44) (d := 121) (b := false) rfl (by kernel_rfl) t121) (run_op_load rfl t133 (run_load_int _ _ W (later_cell hj g4))) (calm7 laterJ_later (by kernel_rfl) (by kernel_rfl) hj (later_refl _)) rfl
                · intro listed a W H hj hl hd
                  have t121 : a.tmps.getD 121 undef = .bool false := H.get 44 121 (by kernel_rfl) (dep_of hd 44 (by kernel_rfl)) (fun _ h => by cases h)
                  have t129 : a.tmps.getD 129 undef = .slice (some adw) k c5 := H.get 52 129 (by kernel_rfl) (dep_of hd 52 (by kernel_rfl)) (fun _ h => by cases h)
                  have t134 : a.tmps.getD 134 undef = .int .i64 (e2 : Int) := H.get 57 134 (by kernel_rfl) (dep_of hd 57 (by kernel_rfl)) (fun _ h => by cases h)
                  exact step7_value (i := 58) rfl (wanted_at (j := 44) (d := 121) (b := false) rfl (by kernel_rfl) t121) (run_op_index rfl t129 t134 (run_index_i adw k c5 e2 hek2 W)) (calm7 laterJ_later (by kernel_rfl) (by kernel_rfl) hj (later_refl _)) rfl
                · intro listed a W H hj hl hd
                  have t121 : a.tmps.getD 121 undef = .bool false := H.get 44 121 (by kernel_rfl) (dep_of hd 44 (by kernel_rfl)) (fun _ h => by cases h)
                  have t135 : a.tmps.getD 135 undef = .pointer (some (adw.add e2)) := H.get 58 135 (by kernel_rfl) (dep_of hd 58 (by kernel_rfl)) (fun _ h => by cases h)
                  exact step7_value (i := 59) rfl (wanted_at (j := 44) (d := 121) (b := false) rfl (by kernel_rfl) t121) (run_op_load rfl t135 (run_load_int _ _ W (later_cell hj g5))) (calm7 laterJ_later (by kernel_rfl) (by kernel_rfl) hj (later_refl _)) rfl
                · intro listed a W H hj hl hd
                  have t121 : a.tmps.getD 121 undef = .bool false := H.get 44 121 (by kernel_rfl) (dep_of hd 44 (by kernel_rfl)) (fun _ h => by cases h)
                  have t128 : a.tmps.getD 128 undef = .int .i64 y := H.get 51 128 (by kernel_rfl) (dep_of hd 51 (by kernel_rfl)) (fun _ h => by cases h)
                  have t136 : a.tmps.getD 136 undef = .int .i64 y2 := H.get 59 136 (by kernel_rfl) (dep_of hd 59 (by kernel_rfl)) (fun _ h => by cases h)
                  exact step7_value (i := 60) rfl (wanted_at (j := 44) (d := 121) (b := false) rfl (by kernel_rfl) t121) (run_op_bin rfl t128 t136 (bin_eql _ _ _ y y2 false HEQ.out)) (calm7 laterJ_later (by kernel_rfl) (by kernel_rfl) hj (later_refl _)) rfl
                · intro listed a W H hj hl hd
                  have t121 : a.tmps.getD 121 undef = .bool false := H.get 44 121 (by kernel_rfl) (dep_of hd 44 (by kernel_rfl)) (fun _ h => by cases h)
                  have t137 : a.tmps.getD 137 undef = .bool false := H.get 60 137 (by kernel_rfl) (dep_of hd 60 (by kernel_rfl)) (fun _ h => by cases h)
                  exact step7_value (i := 61) rfl (wanted_at (j := 44) (d := 121) (b := false) rfl (by kernel_rfl) t121) (run_op_move rfl t137) (calm7 laterJ_later (by kernel_rfl) (by kernel_rfl) hj (later_refl _)) rfl
                · intro listed a W H hj hl hd
                  have t138 : a.tmps.getD 138 undef = .bool false := H.get 61 138 (by kernel_rfl) (dep_of hd 61 (by kernel_rfl)) (fun _ h => by cases h)
                  exact step7_skip (i := 62) rfl (unwanted_at (j := 61) (d := 138) (b := true) (c := false) rfl (by kernel_rfl) t138 rfl) (calm7 laterJ_later (by kernel_rfl) (by kernel_rfl) hj (later_refl _)) rfl
                · intro listed a W H hj hl hd
                  have t138 : a.tmps.getD 138 undef = .bool false := H.get 61 138 (by kernel_rfl) (dep_of hd 61 (by kernel_rfl)) (fun _ h => by cases h)
                  exact step7_skip (i := 63) rfl (unwanted_at (j := 61) (d := 138) (b := true) (c := false) rfl (by kernel_rfl) t138 rfl) (calm7 laterJ_later (by kernel_rfl) (by kernel_rfl) hj (later_refl _)) rfl
                · intro listed a W H hj hl hd
                  have t138 : a.tmps.getD 138 undef = .bool false := H.get 61 138 (by kernel_rfl) (dep_of hd 61 (by kernel_rfl)) (fun _ h => by cases h)
                  exact step7_skip (i := 64) rfl (unwanted_at (j := 61) (d := 138) (b := true) (c := false) rfl (by kernel_rfl) t138 rfl) (calm7 laterJ_later (by kernel_rfl) (by kernel_rfl) hj (later_refl _)) rfl
                · intro listed a W H hj hl hd
                  have t138 : a.tmps.getD 138 undef = .bool false := H.get 61 138 (by kernel_rfl) (dep_of hd 61 (by kernel_rfl)) (fun _ h => by cases h)
                  exact step7_skip (i := 65) rfl (unwanted_at (j := 61) (d := 138) (b := true) (c := false) rfl (by kernel_rfl) t138 rfl) (calm7 laterJ_later (by kernel_rfl) (by kernel_rfl) hj (later_refl _)) rfl
                · intro listed a W H hj hl hd
                  have t138 : a.tmps.getD 138 undef = .bool false := H.get 61 138 (by kernel_rfl) (dep_of hd 61 (by kernel_rfl)) (fun _ h => by cases h)
                  exact step7_skip (i := 66) rfl (unwanted_at (j := 61) (d := 138) (b := true) (c := false) rfl (by kernel_rfl) t138 rfl) (calm7 laterJ_later (by kernel_rfl) (by kernel_rfl) hj (later_refl _)) rfl
                · intro listed a W H hj hl hd
                  have t138 : a.tmps.getD 138 undef = .bool false := H.get 61 138 (by kernel_rfl) (dep_of hd 61 (by kernel_rfl)) (fun _ h => by cases h)
                  exact step7_skip (i := 67) rfl (unwanted_at (j := 61) (d := 138) (b := true) (c := false) rfl (by kernel_rfl) t138 rfl) (calm7 laterJ_later (by kernel_rfl) (by kernel_rfl) hj (later_refl _)) rfl
                · intro listed a W H hj hl hd
                  have t138 : a.tmps.getD 138 undef = .bool false := H.get 61 138 (by kernel_rfl) (dep_of hd 61 (by kernel_rfl)) (fun _ h => by cases h)
                  exact step7_skip (i := 68) rfl (unwanted_at (j := 61) (d := 138) (b := true) (c := false) rfl (by kernel_rfl) t138 rfl) (calm7 laterJ_later (by kernel_rfl) (by kernel_rfl) hj (later_refl _)) rfl
                · intro listed a W H hj hl hd
                  have t138 : a.tmps.getD 138 undef = .bool false := H.get 61 138 (by kernel_rfl) (dep_of hd 61 (by kernel_rfl)) (fun _ h => by cases h)
                  exact step7_skip (i := 69) rfl (unwanted_at (j := 61) (d := 138) (b := true) (c := false) rfl (by kernel_rfl) t138 rfl) (calm7 laterJ_later (by kernel_rfl) (by kernel_rfl) hj (later_refl _)) rfl
                · intro listed a W H hj hl hd
                  have t138 : a.tmps.getD 138 undef = .bool false := H.get 61 138 (by kernel_rfl) (dep_of hd 61 (by kernel_rfl)) (fun _ h => by cases h)
                  exact step7_skip (i := 70) rfl (unwanted_at (j := 61) (d := 138) (b := true) (c := false) rfl (by kernel_rfl) t138 rfl) (calm7 laterJ_later (by kernel_rfl) (by kernel_rfl) hj (later_refl _)) rfl
                · intro listed a W H hj hl hd
                  have t138 : a.tmps.getD 138 undef = .bool false := H.get 61 138 (by kernel_rfl) (dep_of hd 61 (by kernel_rfl)) (fun _ h => by cases h)
                  exact step7_skip (i := 71) rfl (unwanted_at (j := 61) (d := 138) (b := true) (c := false) rfl (by kernel_rfl) t138 rfl) (calm7 laterJ_later (by kernel_rfl) (by kernel_rfl) hj (later_refl _)) rfl
                · intro listed a W H hj hl hd
                  have t121 : a.tmps.getD 121 undef = .bool false := H.get 44 121 (by kernel_rfl) (dep_of hd 44 (by kernel_rfl)) (fun _ h => by cases h)
                  have t138 : a.tmps.getD 138 undef = .bool false := H.get 61 138 (by kernel_rfl) (dep_of hd 61 (by kernel_rfl)) (fun _ h => by cases h)
                  exact step7_value (i := 72) rfl (wanted_at (j := 44) (d := 121) (b := false) rfl (by kernel_rfl) t121) (run_op_pickF rfl t138 rfl) (calm7 laterJ_later (by kernel_rfl) (by kernel_rfl) hj (later_refl _)) rfl
                · intro listed a W H hj hl hd
                  have t104 : a.tmps.getD 104 undef = .bool true := H.get 27 104 (by kernel_rfl) (dep_of hd 27 (by kernel_rfl)) (fun _ h => by cases h)
                  have t121 : a.tmps.getD 121 undef = .bool false := H.get 44 121 (by kernel_rfl) (dep_of hd 44 (by kernel_rfl)) (fun _ h => by cases h)
                  have t149 : a.tmps.getD 149 undef = .bool false := H.get 72 149 (by kernel_rfl) (dep_of hd 72 (by kernel_rfl)) (fun _ h => by cases h)
                  exact step7_value (i := 73) rfl (wanted_at (j := 27) (d := 104) (b := true) rfl (by kernel_rfl) t104) (run_op_pickF rfl t121 t149) (calm7 laterJ_later (by kernel_rfl) (by kernel_rfl) hj (later_refl _)) rfl
                · intro listed a W H hj hl hd
                  have t101 : a.tmps.getD 101 undef = .bool false := H.get 24 101 (by kernel_rfl) (dep_of hd 24 (by kernel_rfl)) (fun _ h => by cases h)
                  have t104 : a.tmps.getD 104 undef = .bool true := H.get 27 104 (by kernel_rfl) (dep_of hd 27 (by kernel_rfl)) (fun _ h => by cases h)
                  have t150 : a.tmps.getD 150 undef = .bool false := H.get 73 150 (by kernel_rfl) (dep_of hd 73 (by kernel_rfl)) (fun _ h => by cases h)
                  exact step7_value (i := 74) rfl (wanted_at (j := 24) (d := 101) (b := false) rfl (by kernel_rfl) t101) (run_op_pick rfl t104 t150) (calm7 laterJ_later (by kernel_rfl) (by kernel_rfl) hj (later_refl _)) rfl
                · intro listed a W H hj hl hd
                  have t101 : a.tmps.getD 101 undef = .bool false := H.get 24 101 (by kernel_rfl) (dep_of hd 24 (by kernel_rfl)) (fun _ h => by cases h)
                  have t151 : a.tmps.getD 151 undef = .bool false := H.get 74 151 (by kernel_rfl) (dep_of hd 74 (by kernel_rfl)) (fun _ h => by cases h)
                  exact step7_value (i := 75) rfl rfl (run_op_pickF rfl t101 t151) (calm7 laterJ_later (by kernel_rfl) (by kernel_rfl) hj (later_refl _)) rfl
              · intro a WC hdef hsz hw hall hact
                obtain ⟨u, hu⟩ : ∃ u : Nat → Value, ∀ k, a.tmps.getD k undef = u k := ⟨_, fun _ => rfl⟩
                have h152 : u 152 = .bool false := by rw [← hu]; exact hall 75 _ rfl
                simp only [hu] at hact
                have hact' : a = ([77, 78, 79, 80, 81, 82, 83, 84, 85, 86, 87, 88, 89, 90, 91, 92, 93, 94, 95, 96, 97, 98, 99, 100, 101, 102, 103, 104, 105, 106, 107, 108, 109, 110, 111, 112, 113, 114, 115, 116, 117, 118, 119, 120, 121, 122, 123, 124, 125, 126, 127, 128, 129, 130, 131, 132, 133, 134, 135, 136, 137, 138, 139, 140, 141, 142, 143, 144, 145, 146, 147, 148, 149, 150, 151, 152] : List Nat).foldl (fun b k => b.put (some k) (u k)) _ := hact
                simp only [List.foldl] at hact'
                simp only [Act.put, List.setIfInBounds_toArray, List.set_cons_succ, List.set_cons_zero] at hact'
                have HAC := Lib.hid hact'
                have HX := Lib.hid hw
                clear hact hact' hall hdef hsz hw
                rw [h152] at HAC
                rw [HAC.out]
                have PC := Lib.hid (PD.out.since HX.out)
                have OC := Lib.hid (OD.out.since HX.out)
                have BC := Lib.hid (below_chain BD.out HX.out)
                clear PD OD BD HX HDL HWD hu h152
                go_wp2_with fail
                go_roundw
                case rel => exact ⟨i + 1, by go_num, by omega, PC, OC, BC⟩
                case measure => simp [intOf]; omega
        · skip
          obtain rfl : i = m := by omega
          rcases great_is (ws := xs) (cs := cs) k with ⟨_, hno⟩ | ⟨g, hg1, hg2⟩
          · obtain ⟨h5, h6⟩ := ML.out 0 (by omega)
            rw [hno _ h5] at h6; cases h6
          have hgk : g < k := hg2.lt
          have HGC : Hid (isC cs g = true) := hg2.is
          have HGW : Hid (greatW xs cs = (g : Int)) := by show _ = _; unfold greatW; rw [if_pos (HXL.out.trans HCL.out.symm), HXL.out]; exact hg1
          obtain ⟨f0, HF0⟩ : ∃ e, Hid (o.getD 0 0 = e) := ⟨_, rfl⟩
          obtain ⟨fl, HFL⟩ : ∃ e, Hid (o.getD (i - 1) 0 = e) := ⟨_, rfl⟩
          have HLN : Hid (leastN xs cs k = (f0 : Int)) := by
            have h7 := HO.out
            have h8 := HF0.out
            cases o with
            | nil => have := HOL.out; simp at this; omega
            | cons q0 l => show _ = _; rw [least_head h7]; exact congrArg Int.ofNat h8
          have HLW : Hid (leastW xs cs = (f0 : Int)) := (leastW_of HXL.out HCL.out).trans HLN.out
          have hf0 : f0 < k := by have := (ML.out 0 (by omega)).1; rw [HF0.out] at this; exact this
          have hfl : fl < k := by have := (ML.out (i - 1) (by omega)).1; rw [HFL.out] at this; exact this
          obtain ⟨yg, HYG⟩ : ∃ y, Hid (xs.getD g 0 = y) := ⟨_, rfl⟩
          obtain ⟨y0, HY0⟩ : ∃ y, Hid (xs.getD f0 0 = y) := ⟨_, rfl⟩
          have HYL : Hid (xs.getD fl 0 = yg) := by
            have := great_last hg2 (by rw [HO.out, HOL.out]; omega)
            rw [HO.out, HOL.out, HFL.out, HKX.out, HKX.out, HYG.out] at this
            exact this.symm
          have hyg : 0 ≤ yg ∧ yg ≤ 49 := by have := HXS.out g; rw [HYG.out] at this; omega
          have hy0 : 0 ≤ y0 ∧ y0 ≤ 49 := by have := HXS.out f0; rw [HY0.out] at this; omega
          have HSP : Hid (spreadW xs cs = yg - y0) := by
            show _ = _
            unfold spreadW
            rw [HGW.out, HLW.out, if_neg (by omega), Int.toNat_natCast, Int.toNat_natCast, HKX.out, HKX.out, HYG.out, HY0.out]
          have HUN : Hid (decide (4 < spreadW xs cs) = decide (4 < yg - y0)) := by show _ = _; rw [HSP.out]
          obtain ⟨sp, HDF⟩ : ∃ s, Hid (yg - y0 = s) := ⟨_, rfl⟩
          rw [HDF.out] at HSP HUN
          have hsp : -49 ≤ sp ∧ sp ≤ 49 := by have := HDF.out; omega
          obtain ⟨ip, HIP⟩ : ∃ p, Hid (i - 1 = p) := ⟨_, rfl⟩
          have hip : ip < i := by rw [← HIP.out]; omega
          have HSUB : Hid ((i : Int) - 1 = (ip : Int)) := by have := HIP.out; show _ = _; omega
          rw [HIP.out] at HFL
          have g0 : (0 : Int) ≤ (g : Int) := by omega
          have g1 : (g : Int) < (k : Int) := by omega
          have f00 : (0 : Int) ≤ (f0 : Int) := by omega
          have f01 : (f0 : Int) < (k : Int) := by omega
          have fl0 : (0 : Int) ≤ (fl : Int) := by omega
          have fl1 : (fl : Int) < (k : Int) := by omega
          have ip0 : (0 : Int) ≤ (ip : Int) := by omega
          have ip1 : (ip : Int) < (i : Int) := by omega
          obtain ⟨un, HUV⟩ : ∃ b, Hid (decide (4 < sp) = b) := ⟨_, rfl⟩
          rw [HUV.out] at HUN
          clear hg1 hg2 HKX HXS HIP
          have CELLS : Hid (∀ W, Two2 W (some adw) k xs (some adc) k cs → intK.Lie W W.heap.size (some ado) i (oI o) → W.cell? (ado.add 0) = some (.int .i64 (f0 : Int)) ∧ W.cell? (ado.add ip) = some (.int .i64 (fl : Int)) ∧ W.cell? (adw.add g) = some (.int .i64 yg) ∧ W.cell? (adw.add fl) = some (.int .i64 yg) ∧ W.cell? (adw.add f0) = some (.int .i64 y0) ∧ W.cell? (adc.add g) = some (.bool true)) := fun W h1 h2 =>
            ⟨by rw [CO.out W h2 0 (by omega), HF0.out], by rw [CO.out W h2 ip hip, HFL.out], by rw [CW.out W h1 g hgk, HYG.out], by rw [CW.out W h1 fl hfl, HYL.out], by rw [CW.out W h1 f0 hf0, HY0.out], by rw [CC.out W h1 g hgk, HGC.out]⟩
          clear CW CC CO ML HO HOL HF0 HFL HYG HYL HY0 HGC HLN
          go_wp2_with fail
          refine (wgreat_any _ k _ xs _ k _ cs _ (by omega) (by omega) HP.out).mono ?_
          rw [HGW.out]
          rintro e W2 ⟨rfl, hb2⟩
          have B2 := Lib.hid (below_chain HB.out hb2.out)
          have P2_ := Lib.hid (HP.out.since hb2.out)
          have O2 := Lib.hid (HO1.out.since hb2.out)
          clear hb2 HB HP HO1
          go_wp2_with fail
          obtain ⟨WD, HWD⟩ : ∃ W, Hid (W = W2.drew) := ⟨_, rfl⟩
          have HDL : Hid (Later W2 WD) := by rw [HWD.out]; exact (Below.refl _ _).drew
          have PD := Lib.hid (P2_.out.since HDL.out)
          have OD := Lib.hid (O2.out.since HDL.out)
          have BD := Lib.hid (below_chain B2.out HDL.out)
          clear B2 P2_ O2 HDL
          obtain ⟨c1_, c2_, c3_, c4_, c5_, c6_⟩ := CELLS.out _ PD.out OD.out
          have hi0 : 0 < i := by omega
          refine region_of_steps7 (by kernel_rfl) [some (.slice (some adw) k c5), some (.slice (some adc) k c6), some (.int .i64 (f0 : Int)), some (.slice (some ado) i c1), some (.pointer (some (ado.add 0))), some (.int .i64 (f0 : Int)), some (.bool true), some (.bool true), some (.int .i64 (g : Int)), some (.bool true), some (.bool true), some (.bool true), some (.int .i64 (g : Int)), some (.slice (some adw) k c5), some (.int .i64 (k : Int)), some (.bool true), some (.bool true), some (.bool true), some (.slice (some adc) k c6), some (.int .i64 (g : Int)), some (.pointer (some (adc.add g))), some (.bool true), some (.bool true), some (.bool true), some (.slice (some adw) k c5), some (.int .i64 (g : Int)), some (.pointer (some (adw.add g))), some (.int .i64 yg), some (.slice (some adw) k c5), some (.slice (some ado) i c1), some (.int .i64 (i : Int)), some (.int .i64 (ip : Int)), some (.pointer (some (ado.add ip))), some (.int .i64 (fl : Int)), some (.pointer (some (adw.add fl))), some (.int .i64 yg), some (.bool true), some (.bool true), some (.bool true), some (.slice (some adw) k c5), some (.slice (some adc) k c6), some (.int .i64 sp), some (.slice (some adw) k c5), some (.int .i64 (g : Int)), some (.pointer (some (adw.add g))), some (.int .i64 yg), some (.slice (some adw) k c5), some (.slice (some ado) i c1), some (.pointer (some (ado.add 0))), some (.int .i64 (f0 : Int)), some (.pointer (some (adw.add f0))), some (.int .i64 y0), some (.int .i64 sp), some (.bool true), some (.bool true), some (.bool true), some (.slice (some adw) k c5), some (.slice (some adc) k c6), some (.bool un), some (.slice (some adw) k c5), some (.int .i64 (g : Int)), some (.pointer (some (adw.add g))), some (.int .i64 yg), some (.slice (some adw) k c5), some (.slice (some ado) i c1), some (.pointer (some (ado.add 0))), some (.int .i64 (f0 : Int)), some (.pointer (some (adw.add f0))), some (.int .i64 y0), some (.int .i64 sp), some (.bool un), some (.bool true), some (.bool true), some (.bool true), some (.bool true), some (.bool true), some (.bool true)] [] [] (LaterJ WD) (by kernel_rfl) (by kernel_rfl) (by rw [← HWD.out]; exact Below.refl _ _) ?_ ?_
          · refine Steps7.cons ?_ (Steps7.cons ?_ (Steps7.cons ?_ (Steps7.cons ?_ (Steps7.cons ?_ (Steps7.cons ?_ (Steps7.cons ?_ (Steps7.cons ?_ (Steps7.cons ?_ (Steps7.cons ?_ (Steps7.cons ?_ (Steps7.cons ?_ (Steps7.cons ?_ (Steps7.cons ?_ (Steps7.cons ?_ (Steps7.cons ?_ (Steps7.cons ?_ (Steps7.cons ?_ (Steps7.cons ?_ (Steps7.cons ?_ (Steps7.cons ?_ (Steps7.cons ?_ (Steps7.cons ?_ (Steps7.cons ?_ (Steps7.cons ?_ (Steps7.cons ?_ (Steps7.cons ?_ (Steps7.cons ?_ (Steps7.cons ?_ (Steps7.cons ?_ (Steps7.cons ?_ (Steps7.cons ?_ (Steps7.cons ?_ (Steps7.cons ?_ (Steps7.cons ?_ (Steps7.cons ?_ (Steps7.cons ?_ (Steps7.cons ?_ (Steps7.cons ?_ (Steps7.cons ?_ (Steps7.cons ?_ (Steps7.cons ?_ (Steps7.cons ?_ (Steps7.cons ?_ (Steps7.cons ?_ (Steps7.cons ?_ (Steps7.cons ?_ (Steps7.cons ?_ (Steps7.cons ?_ (Steps7.cons ?_ (Steps7.cons ?_ (Steps7.cons ?_ (Steps7.cons ?_ (Steps7.cons ?_ (Steps7.cons ?_ (Steps7.cons ?_ (Steps7.cons ?_ (Steps7.cons ?_ (Steps7.cons ?_ (Steps7.cons ?_ (Steps7.cons ?_ (Steps7.cons ?_ (Steps7.cons ?_ (Steps7.cons ?_ (Steps7.cons ?_ (Steps7.cons ?_ (Steps7.cons ?_ (Steps7.cons ?_ (Steps7.cons ?_ (Steps7.cons ?_ (Steps7.cons ?_ (Steps7.cons ?_ (Steps7.cons ?_ (Steps7.cons ?_ (Steps7.cons ?_ (Steps7.cons ?_ (Steps7.cons ?_ (Steps7.nil)))))))))))))))))))))))))))))))))))))))))))))))))))))))))))))))))))))))))))))
            · intro listed a W H hj hl hd
              have t5 : a.tmps.getD 5 undef = .slice (some adw) k c5 := (H.old 5 (by kernel_rfl)).trans rfl
              exact step7_value (i := 0) rfl rfl (run_op_move rfl t5) (calm7 laterJ_later (by kernel_rfl) (by kernel_rfl) hj (later_refl _)) rfl
            · intro listed a W H hj hl hd
              have t6 : a.tmps.getD 6 undef = .slice (some adc) k c6 := (H.old 6 (by kernel_rfl)).trans rfl
              exact step7_value (i := 1) rfl rfl (run_op_move rfl t6) (calm7 laterJ_later (by kernel_rfl) (by kernel_rfl) hj (later_refl _)) rfl
            · intro listed a W H hj hl hd
              have t156 : a.tmps.getD 156 undef = .slice (some adw) k c5 := H.get 0 156 (by kernel_rfl) (dep_of hd 0 (by kernel_rfl)) (fun _ h => by cases h)
              have t157 : a.tmps.getD 157 undef = .slice (some adc) k c6 := H.get 1 157 (by kernel_rfl) (dep_of hd 1 (by kernel_rfl)) (fun _ h => by cases h)
              refine step7_call (i := 2) rfl rfl (run_op_call (vs := #[.slice (some adw) k c5, .slice (some adc) k c6]) Try.func14 (by kernel_rfl) (by kernel_rfl) rfl (by simp only [List.map_toArray, List.map_cons, List.map_nil]; show #[a.tmps.getD 156 undef, a.tmps.getD 157 undef] = _; rw [t156, t157])) ?_
              refine (wleast_any _ k _ xs _ k _ cs W (by omega) (by omega) (PD.out.since hj)).mono ?_
              rw [HLW.out]
              rintro e W3 ⟨rfl, hb3⟩
              exact ⟨_, rfl, (calm7 laterJ_later (by kernel_rfl) (by kernel_rfl) hj hb3.out), rfl⟩
            · intro listed a W H hj hl hd
              have t9 : a.tmps.getD 9 undef = .slice (some ado) i c1 := (H.old 9 (by kernel_rfl)).trans rfl
              exact step7_value (i := 3) rfl rfl (run_op_move rfl t9) (calm7 laterJ_later (by kernel_rfl) (by kernel_rfl) hj (later_refl _)) rfl
            · intro listed a W H hj hl hd
              have t159 : a.tmps.getD 159 undef = .slice (some ado) i c1 := H.get 3 159 (by kernel_rfl) (dep_of hd 3 (by kernel_rfl)) (fun _ h => by cases h)
              exact step7_value (i := 4) rfl rfl (run_op_index rfl t159 rfl (run_index_z ado i c1 hi0 W)) (calm7 laterJ_later (by kernel_rfl) (by kernel_rfl) hj (later_refl _)) rfl
            · intro listed a W H hj hl hd
              have t160 : a.tmps.getD 160 undef = .pointer (some (ado.add 0)) := H.get 4 160 (by kernel_rfl) (dep_of hd 4 (by kernel_rfl)) (fun _ h => by cases h)
              exact step7_value (i := 5) rfl rfl (run_op_load rfl t160 (run_load_int _ _ W (later_cell hj c1_))) (calm7 laterJ_later (by kernel_rfl) (by kernel_rfl) hj (later_refl _)) rfl
            · intro listed a W H hj hl hd
              have t158 : a.tmps.getD 158 undef = .int .i64 (f0 : Int) := H.get 2 158 (by kernel_rfl) (dep_of hd 2 (by kernel_rfl)) (fun _ h => by cases h)
              have t161 : a.tmps.getD 161 undef = .int .i64 (f0 : Int) := H.get 5 161 (by kernel_rfl) (dep_of hd 5 (by kernel_rfl)) (fun _ h => by cases h)
              exact step7_value (i := 6) rfl rfl (run_op_bin rfl t158 t161 (bin_eql _ _ _ (f0 : Int) (f0 : Int) true (by first | rfl | (simp; done) | (simp; omega) | decide))) (calm7 laterJ_later (by kernel_rfl) (by kernel_rfl) hj (later_refl _)) rfl
            · intro listed a W H hj hl hd
              have t162 : a.tmps.getD 162 undef = .bool true := H.get 6 162 (by kernel_rfl) (dep_of hd 6 (by kernel_rfl)) (fun _ h => by cases h)
              exact step7_value (i := 7) rfl rfl (run_op_move rfl t162) (calm7 laterJ_later (by kernel_rfl) (by kernel_rfl) hj (later_refl _)) rfl
            · intro listed a W H hj hl hd
              have t163 : a.tmps.getD 163 undef = .bool true := H.get 7 163 (by kernel_rfl) (dep_of hd 7 (by kernel_rfl)) (fun _ h => by cases h)
              have t11 : a.tmps.getD 11 undef = .int .i64 (g : Int) := (H.old 11 (by kernel_rfl)).trans rfl
              exact step7_value (i := 8) rfl (wanted_at (j := 7) (d := 163) (b := true) rfl (by kernel_rfl) t163) (run_op_move rfl t11) (calm7 laterJ_later (by kernel_rfl) (by kernel_rfl) hj (later_refl _)) rfl
            · intro listed a W H hj hl hd
              have t163 : a.tmps.getD 163 undef = .bool true := H.get 7 163 (by kernel_rfl) (dep_of hd 7 (by kernel_rfl)) (fun _ h => by cases h)
              have t164 : a.tmps.getD 164 undef = .int .i64 (g : Int) := H.get 8 164 (by kernel_rfl) (dep_of hd 8 (by kernel_rfl)) (fun _ h => by cases h)
              exact step7_value (i := 9) rfl (wanted_at (j := 7) (d := 163) (b := true) rfl (by kernel_rfl) t163) (run_op_bin rfl t164 rfl (bin_geq _ _ _ (g : Int) 0 true (decide_eq_true (by omega)))) (calm7 laterJ_later (by kernel_rfl) (by kernel_rfl) hj (later_refl _)) rfl
            · intro listed a W H hj hl hd
              have t163 : a.tmps.getD 163 undef = .bool true := H.get 7 163 (by kernel_rfl) (dep_of hd 7 (by kernel_rfl)) (fun _ h => by cases h)
              have t165 : a.tmps.getD 165 undef = .bool true := H.get 9 165 (by kernel_rfl) (dep_of hd 9 (by kernel_rfl)) (fun _ h => by cases h)
              exact step7_value (i := 10) rfl rfl (run_op_pick rfl t163 t165) (calm7 laterJ_later (by kernel_rfl) (by kernel_rfl) hj (later_refl _)) rfl
            · intro listed a W H hj hl hd
              have t166 : a.tmps.getD 166 undef = .bool true := H.get 10 166 (by kernel_rfl) (dep_of hd 10 (by kernel_rfl)) (fun _ h => by cases h)
              exact step7_value (i := 11) rfl rfl (run_op_move rfl t166) (calm7 laterJ_later (by kernel_rfl) (by kernel_rfl) hj (later_refl _)) rfl
            · intro listed a W H hj hl hd
              have t167 : a.tmps.getD 167 undef = .bool true := H.get 11 167 (by kernel_rfl) (dep_of hd 11 (by kernel_rfl)) (fun _ h => by cases h)
              have t11 : a.tmps.getD 11 undef = .int .i64 (g : Int) := (H.old 11 (by kernel_rfl)).trans rfl
              exact step7_value (i := 12) rfl (wanted_at (j := 11) (d := 167) (b := true) rfl (by kernel_rfl) t167) (run_op_move rfl t11) (calm7 laterJ_later (by kernel_rfl) (by kernel_rfl) hj (later_refl _)) rfl
            · intro listed a W H hj hl hd
              have t167 : a.tmps.getD 167 undef = .bool true := H.get 11 167 (by kernel_rfl) (dep_of hd 11 (by kernel_rfl)) (fun _ h => by cases h)
              have t5 : a.tmps.getD 5 undef = .slice (some adw) k c5 := (H.old 5 (by kernel_rfl)).trans rfl
              exact step7_value (i := 13) rfl (wanted_at (j := 11) (d := 167) (b := true) rfl (by kernel_rfl) t167) (run_op_move rfl t5) (calm7 laterJ_later (by kernel_rfl) (by kernel_rfl) hj (later_refl _)) rfl
            · intro listed a W H hj hl hd
              have t167 : a.tmps.getD 167 undef = .bool true := H.get 11 167 (by kernel_rfl) (dep_of hd 11 (by kernel_rfl)) (fun _ h => by cases h)
              have t169 : a.tmps.getD 169 undef = .slice (some adw) k c5 := H.get 13 169 (by kernel_rfl) (dep_of hd 13 (by kernel_rfl)) (fun _ h => by cases h)
              exact step7_value (i := 14) rfl (wanted_at (j := 11) (d := 167) (b := true) rfl (by kernel_rfl) t167) (run_op_len Try.underlying22 rfl t169) (calm7 laterJ_later (by kernel_rfl) (by kernel_rfl) hj (later_refl _)) rfl
            · intro listed a W H hj hl hd
              have t167 : a.tmps.getD 167 undef = .bool true := H.get 11 167 (by kernel_rfl) (dep_of hd 11 (by kernel_rfl)) (fun _ h => by cases h)
              have t168 : a.tmps.getD 168 undef = .int .i64 (g : Int) := H.get 12 168 (by kernel_rfl) (dep_of hd 12 (by kernel_rfl)) (fun _ h => by cases h)
              have t170 : a.tmps.getD 170 undef = .int .i64 (k : Int) := H.get 14 170 (by kernel_rfl) (dep_of hd 14 (by kernel_rfl)) (fun _ h => by cases h)
              exact step7_value (i := 15) rfl (wanted_at (j := 11) (d := 167) (b := true) rfl (by kernel_rfl) t167) (run_op_bin rfl t168 t170 (bin_lss _ _ _ (g : Int) (k : Int) true (decide_eq_true (by omega)))) (calm7 laterJ_later (by kernel_rfl) (by kernel_rfl) hj (later_refl _)) rfl
            · intro listed a W H hj hl hd
              have t167 : a.tmps.getD 167 undef = .bool true := H.get 11 167 (by kernel_rfl) (dep_of hd 11 (by kernel_rfl)) (fun _ h => by cases h)
              have t171 : a.tmps.getD 171 undef = .bool true := H.get 15 171 (by kernel_rfl) (dep_of hd 15 (by kernel_rfl)) (fun _ h => by cases h)
              exact step7_value (i := 16) rfl rfl (run_op_pick rfl t167 t171) (calm7 laterJ_later (by kernel_rfl) (by kernel_rfl) hj (later_refl _)) rfl
            · intro listed a W H hj hl hd
              have t172 : a.tmps.getD 172 undef = .bool true := H.get 16 172 (by kernel_rfl) (dep_of hd 16 (by kernel_rfl)) (fun _ h => by cases h)
              exact step7_value (i := 17) rfl rfl (run_op_move rfl t172) (calm7 laterJ_later (by kernel_rfl) (by kernel_rfl) hj (later_refl _)) rfl
            · intro listed a W H hj hl hd
              have t173 : a.tmps.getD 173 undef = .bool true := H.get 17 173 (by kernel_rfl) (dep_of hd 17 (by kernel_rfl)) (fun _ h => by cases h)
              have t6 : a.tmps.getD 6 undef = .slice (some adc) k c6 := (H.old 6 (by kernel_rfl)).trans rfl
              exact step7_value (i := 18) rfl (wanted_at (j := 17) (d := 173) (b := true) rfl (by kernel_rfl) t173) (run_op_move rfl t6) (calm7 laterJ_later (by kernel_rfl) (by kernel_rfl) hj (later_refl _)) rfl
            · intro listed a W H hj hl hd
              have t173 : a.tmps.getD 173 undef = .bool true := H.get 17 173 (by kernel_rfl) (dep_of hd 17 (by kernel_rfl)) (fun _ h => by cases h)
              have t11 : a.tmps.getD 11 undef = .int .i64 (g : Int) := (H.old 11 (by kernel_rfl)).trans rfl
              exact step7_value (i := 19) rfl (wanted_at (j := 17) (d := 173) (b := true) rfl (by kernel_rfl) t173) (run_op_move rfl t11) (calm7 laterJ_later (by kernel_rfl) (by kernel_rfl) hj (later_refl _)) rfl
            · intro listed a W H hj hl hd
              have t173 : a.tmps.getD 173 undef = .bool true := H.get 17 173 (by kernel_rfl) (dep_of hd 17 (by kernel_rfl)) (fun _ h => by cases h)
              have t174 : a.tmps.getD 174 undef = .slice (some adc) k c6 := H.get 18 174 (by kernel_rfl) (dep_of hd 18 (by kernel_rfl)) (fun _ h => by cases h)
              have t175 : a.tmps.getD 175 undef = .int .i64 (g : Int) := H.get 19 175 (by kernel_rfl) (dep_of hd 19 (by kernel_rfl)) (fun _ h => by cases h)
              exact step7_value (i := 20) rfl (wanted_at (j := 17) (d := 173) (b := true) rfl (by kernel_rfl) t173) (run_op_index rfl t174 t175 (run_index_b adc k c6 g hgk W)) (calm7 laterJ_later (by kernel_rfl) (by kernel_rfl) hj (later_refl _)) rfl
            · intro listed a W H hj hl hd
              have t173 : a.tmps.getD 173 undef = .bool true := H.get 17 173 (by kernel_rfl) (dep_of hd 17 (by kernel_rfl)) (fun _ h => by cases h)
              have t176 : a.tmps.getD 176 undef = .pointer (some (adc.add g)) := H.get 20 176 (by kernel_rfl) (dep_of hd 20 (by kernel_rfl)) (fun _ h => by cases h)
              exact step7_value (i := 21) rfl (wanted_at (j := 17) (d := 173) (b := true) rfl (by kernel_rfl) t173) (run_op_load rfl t176 (run_load_bool _ _ W (later_cell hj c6_))) (calm7 laterJ_later (by kernel_rfl) (by kernel_rfl) hj (later_refl _)) rfl
            · intro listed a W H hj hl hd
              have t173 : a.tmps.getD 173 undef = .bool true := H.get 17 173 (by kernel_rfl) (dep_of hd 17 (by kernel_rfl)) (fun _ h => by cases h)
              have t177 : a.tmps.getD 177 undef = .bool true := H.get 21 177 (by kernel_rfl) (dep_of hd 21 (by kernel_rfl)) (fun _ h => by cases h)
              exact step7_value (i := 22) rfl rfl (run_op_pick rfl t173 t177) (calm7 laterJ_later (by kernel_rfl) (by kernel_rfl) hj (later_refl _)) rfl
            · intro listed a W H hj hl hd
              have t178 : a.tmps.getD 178 undef = .bool true := H.get 22 178 (by kernel_rfl) (dep_of hd 22 (by kernel_rfl)) (fun _ h => by cases h)
              exact step7_value (i := 23) rfl rfl (run_op_move rfl t178) (calm7 laterJ_later (by kernel_rfl) (by kernel_rfl) hj (later_refl _)) rfl
            · intro listed a W H hj hl hd
              have t179 : a.tmps.getD 179 undef = .bool true := H.get 23 179 (by kernel_rfl) (dep_of hd 23 (by kernel_rfl)) (fun _ h => by cases h)
              have t5 : a.tmps.getD 5 undef = .slice (some adw) k c5 := (H.old 5 (by kernel_rfl)).trans rfl
              exact step7_value (i := 24) rfl (wanted_at (j := 23) (d := 179) (b := true) rfl (by kernel_rfl) t179) (run_op_move rfl t5) (calm7 laterJ_later (by kernel_rfl) (by kernel_rfl) hj (later_refl _)) rfl
            · intro listed a W H hj hl hd
              have t179 : a.tmps.getD 179 undef = .bool true := H.get 23 179 (by kernel_rfl) (dep_of hd 23 (by kernel_rfl)) (fun _ h => by cases h)
              have t11 : a.tmps.getD 11 undef = .int .i64 (g : Int) := (H.old 11 (by kernel_rfl)).trans rfl
              exact step7_value (i := 25) rfl (wanted_at (j := 23) (d := 179) (b := true) rfl (by kernel_rfl) t179) (run_op_move rfl t11) (calm7 laterJ_later (by kernel_rfl) (by kernel_rfl) hj (later_refl _)) rfl
            · intro listed a W H hj hl hd
              have t179 : a.tmps.getD 179 undef = .bool true := H.get 23 179 (by kernel_rfl) (dep_of hd 23 (by kernel_rfl)) (fun _ h => by cases h)
              have t180 : a.tmps.getD 180 undef = .slice (some adw) k c5 := H.get 24 180 (by kernel_rfl) (dep_of hd 24 (by kernel_rfl)) (fun _ h => by cases h)
              have t181 : a.tmps.getD 181 undef = .int .i64 (g : Int) := H.get 25 181 (by kernel_rfl) (dep_of hd 25 (by kernel_rfl)) (fun _ h => by cases h)
              exact step7_value (i := 26) rfl (wanted_at (j := 23) (d := 179) (b := true) rfl (by kernel_rfl) t179) (run_op_index rfl t180 t181 (run_index_i adw k c5 g hgk W)) (calm7 laterJ_later (by kernel_rfl) (by kernel_rfl) hj (later_refl _)) rfl
            · intro listed a W H hj hl hd
              have t179 : a.tmps.getD 179 undef = .bool true := H.get 23 179 (by kernel_rfl) (dep_of hd 23 (by kernel_rfl)) (fun _ h => by cases h)
              have t182 : a.tmps.getD 182 undef = .pointer (some (adw.add g)) := H.get 26 182 (by kernel_rfl) (dep_of hd 26 (by kernel_rfl)) (fun _ h => by cases h)
              exact step7_value (i := 27) rfl (wanted_at (j := 23) (d := 179) (b := true) rfl (by kernel_rfl) t179) (run_op_load rfl t182 (run_load_int _ _ W (later_cell hj c3_))) (calm7 laterJ_later (by kernel_rfl) (by kernel_rfl) hj (later_refl _)) rfl
            · intro listed a W H hj hl hd
              have t179 : a.tmps.getD 179 undef = .bool true := H.get 23 179 (by kernel_rfl) (dep_of hd 23 (by kernel_rfl)) (fun _ h => by cases h)
              have t5 : a.tmps.getD 5 undef = .slice (some adw) k c5 := (H.old 5 (by kernel_rfl)).trans rfl
              exact step7_value (i := 28) rfl (wanted_at (j := 23) (d := 179) (b := true) rfl (by kernel_rfl) t179) (run_op_move rfl t5) (calm7 laterJ_later (by kernel_rfl) (by kernel_rfl) hj (later_refl _)) rfl
            · intro listed a W H hj hl hd
              have t179 : a.tmps.getD 179 undef = .bool true := H.get 23 179 (by kernel_rfl) (dep_of hd 23 (by kernel_rfl)) (fun _ h => by cases h)
              have t9 : a.tmps.getD 9 undef = .slice (some ado) i c1 := (H.old 9 (by kernel_rfl)).trans rfl
              exact step7_value (i := 29) rfl (wanted_at (j := 23) (d := 179) (b := true) rfl (by kernel_rfl) t179) (run_op_move rfl t9) (calm7 laterJ_later (by kernel_rfl) (by kernel_rfl) hj (later_refl _)) rfl
            · intro listed a W H hj hl hd
              have t179 : a.tmps.getD 179 undef = .bool true := H.get 23 179 (by kernel_rfl) (dep_of hd 23 (by kernel_rfl)) (fun _ h => by cases h)
              have t7 : a.tmps.getD 7 undef = .int .i64 (i : Int) := (H.old 7 (by kernel_rfl)).trans rfl
              exact step7_value (i := 30) rfl (wanted_at (j := 23) (d := 179) (b := true) rfl (by kernel_rfl) t179) (run_op_move rfl t7) (calm7 laterJ_later (by kernel_rfl) (by kernel_rfl) hj (later_refl _)) rfl
            · intro listed a W H hj hl hd
              have t179 : a.tmps.getD 179 undef = .bool true := H.get 23 179 (by kernel_rfl) (dep_of hd 23 (by kernel_rfl)) (fun _ h => by cases h)
              have t186 : a.tmps.getD 186 undef = .int .i64 (i : Int) := H.get 30 186 (by kernel_rfl) (dep_of hd 30 (by kernel_rfl)) (fun _ h => by cases h)
              exact step7_value (i := 31) rfl (wanted_at (j := 23) (d := 179) (b := true) rfl (by kernel_rfl) t179) (run_op_bin rfl t186 rfl (bin_sub _ _ _ (i : Int) 1 (ip : Int) HSUB.out (by omega) (by omega))) (calm7 laterJ_later (by kernel_rfl) (by kernel_rfl) hj (later_refl _)) rfl
            · intro listed a W H hj hl hd
              have t179 : a.tmps.getD 179 undef = .bool true := H.get 23 179 (by kernel_rfl) (dep_of hd 23 (by kernel_rfl)) (fun _ h => by cases h)
              have t185 : a.tmps.getD 185 undef = .slice (some ado) i c1 := H.get 29 185 (by kernel_rfl) (dep_of hd 29 (by kernel_rfl)) (fun _ h => by cases h)
              have t187 : a.tmps.getD 187 undef = .int .i64 (ip : Int) := H.get 31 187 (by kernel_rfl) (dep_of hd 31 (by kernel_rfl)) (fun _ h => by cases h)
              exact step7_value (i := 32) rfl (wanted_at (j := 23) (d := 179) (b := true) rfl (by kernel_rfl) t179) (run_op_index rfl t185 t187 (run_index_i ado i c1 ip hip W)) (calm7 laterJ_later (by kernel_rfl) (by kernel_rfl) hj (later_refl _)) rfl
            · intro listed a W H hj hl hd
              have t179 : a.tmps.getD 179 undef = .bool true := H.get 23 179 (by kernel_rfl) (dep_of hd 23 (by kernel_rfl)) (fun _ h => by cases h)
              have t188 : a.tmps.getD 188 undef = .pointer (some (ado.add ip)) := H.get 32 188 (by kernel_rfl) (dep_of hd 32 (by kernel_rfl)) (fun _ h => by cases h)
              exact step7_value (i := 33) rfl (wanted_at (j := 23) (d := 179) (b := true) rfl (by kernel_rfl) t179) (run_op_load rfl t188 (run_load_int _ _ W (later_cell hj c2_))) (calm7 laterJ_later (by kernel_rfl) (by kernel_rfl) hj (later_refl _)) rfl
            · intro listed a W H hj hl hd
              have t179 : a.tmps.getD 179 undef = .bool true := H.get 23 179 (by kernel_rfl) (dep_of hd 23 (by kernel_rfl)) (fun _ h => by cases h)
              have t184 : a.tmps.getD 184 undef = .slice (some adw) k c5 := H.get 28 184 (by kernel_rfl) (dep_of hd 28 (by kernel_rfl)) (fun _ h => by cases h)
              have t189 : a.tmps.getD 189 undef = .int .i64 (fl : Int) := H.get 33 189 (by kernel_rfl) (dep_of hd 33 (by kernel_rfl)) (fun _ h => by cases h)
              exact step7_value (i := 34) rfl (wanted_at (j := 23) (d := 179) (b := true) rfl (by kernel_rfl) t179) (run_op_index rfl t184 t189 (run_index_i adw k c5 fl hfl W)) (calm7 laterJ_later (by kernel_rfl) (by kernel_rfl) hj (later_refl _)) rfl
            · intro listed a W H hj hl hd
              have t179 : a.tmps.getD 179 undef = .bool true := H.get 23 179 (by kernel_rfl) (dep_of hd 23 (by kernel_rfl)) (fun _ h => by cases h)
              have t190 : a.tmps.getD 190 undef = .pointer (some (adw.add fl)) := H.get 34 190 (by kernel_rfl) (dep_of hd 34 (by kernel_rfl)) (fun _ h => by cases h)
              exact step7_value (i := 35) rfl (wanted_at (j := 23) (d := 179) (b := true) rfl (by kernel_rfl) t179) (run_op_load rfl t190 (run_load_int _ _ W (later_cell hj c4_))) (calm7 laterJ_later (by kernel_rfl) (by kernel_rfl) hj (later_refl _)) rfl
            · intro listed a W H hj hl hd
              have t179 : a.tmps.getD 179 undef = .bool true := H.get 23 179 (by kernel_rfl) (dep_of hd 23 (by kernel_rfl)) (fun _ h => by cases h)
              have t183 : a.tmps.getD 183 undef = .int .i64 yg := H.get 27 183 (by kernel_rfl) (dep_of hd 27 (by kernel_rfl)) (fun _ h => by cases h)
              have t191 : a.tmps.getD 191 undef = .int .i64 yg := H.get 35 191 (by kernel_rfl) (dep_of hd 35 (by kernel_rfl)) (fun _ h => by cases h)
              exact step7_value (i := 36) rfl (wanted_at (j := 23) (d := 179) (b := true) rfl (by kernel_rfl) t179) (run_op_bin rfl t183 t191 (bin_eql _ _ _ yg yg true (by first | rfl | (simp; done) | (simp; omega) | decide))) (calm7 laterJ_later (by kernel_rfl) (by kernel_rfl) hj (later_refl _)) rfl
            · intro listed a W H hj hl hd
              have t179 : a.tmps.getD 179 undef = .bool true := H.get 23 179 (by kernel_rfl) (dep_of hd 23 (by kernel_rfl)) (fun _ h => by cases h)
              have t192 : a.tmps.getD 192 undef = .bool true := H.get 36 192 (by kernel_rfl) (dep_of hd 36 (by kernel_rfl)) (fun _ h => by cases h)
              exact step7_value (i := 37) rfl rfl (run_op_pick rfl t179 t192) (calm7 laterJ_later (by kernel_rfl) (by kernel_rfl) hj (later_refl _)) rfl
            · intro listed a W H hj hl hd
              have t193 : a.tmps.getD 193 undef = .bool true := H.get 37 193 (by kernel_rfl) (dep_of hd 37 (by kernel_rfl)) (fun _ h => by cases h)
              exact step7_value (i := 38) rfl rfl (run_op_move rfl t193) (calm7 laterJ_later (by kernel_rfl) (by kernel_rfl) hj (later_refl _)) rfl
            · intro listed a W H hj hl hd
              have t194 : a.tmps.getD 194 undef = .bool true := H.get 38 194 (by kernel_rfl) (dep_of hd 38 (by kernel_rfl)) (fun _ h => by cases h)
              have t5 : a.tmps.getD 5 undef = .slice (some adw) k c5 := (H.old 5 (by kernel_rfl)).trans rfl
              exact step7_value (i := 39) rfl (wanted_at (j := 38) (d := 194) (b := true) rfl (by kernel_rfl) t194) (run_op_move rfl t5) (calm7 laterJ_later (by kernel_rfl) (by kernel_rfl) hj (later_refl _)) rfl
            · intro listed a W H hj hl hd
              have t194 : a.tmps.getD 194 undef = .bool true := H.get 38 194 (by kernel_rfl) (dep_of hd 38 (by kernel_rfl)) (fun _ h => by cases h)
              have t6 : a.tmps.getD 6 undef = .slice (some adc) k c6 := (H.old 6 (by kernel_rfl)).trans rfl
              exact step7_value (i := 40) rfl (wanted_at (j := 38) (d := 194) (b := true) rfl (by kernel_rfl) t194) (run_op_move rfl t6) (calm7 laterJ_later (by kernel_rfl) (by kernel_rfl) hj (later_refl _)) rfl
            · intro listed a W H hj hl hd
              have t194 : a.tmps.getD 194 undef = .bool true := H.get 38 194 (by kernel_rfl) (dep_of hd 38 (by kernel_rfl)) (fun _ h => by cases h)
              have t195 : a.tmps.getD 195 undef = .slice (some adw) k c5 := H.get 39 195 (by kernel_rfl) (dep_of hd 39 (by kernel_rfl)) (fun _ h => by cases h)
              have t196 : a.tmps.getD 196 undef = .slice (some adc) k c6 := H.get 40 196 (by kernel_rfl) (dep_of hd 40 (by kernel_rfl)) (fun _ h => by cases h)
              refine step7_call (i := 41) rfl (wanted_at (j := 38) (d := 194) (b := true) rfl (by kernel_rfl) t194) (run_op_call (vs := #[.slice (some adw) k c5, .slice (some adc) k c6]) Try.func12 (by kernel_rfl) (by kernel_rfl) rfl (by simp only [List.map_toArray, List.map_cons, List.map_nil]; show #[a.tmps.getD 195 undef, a.tmps.getD 196 undef] = _; rw [t195, t196])) ?_
              refine (wspread_any _ k _ xs _ k _ cs W (by omega) (by omega) (PD.out.since hj)).mono ?_
              rw [HSP.out]
              rintro e W3 ⟨rfl, hb3⟩
              exact ⟨_, rfl, (calm7 laterJ_later (by kernel_rfl) (by kernel_rfl) hj hb3.out), rfl⟩
            · intro listed a W H hj hl hd
              have t194 : a.tmps.getD 194 undef = .bool true := H.get 38 194 (by kernel_rfl) (dep_of hd 38 (by kernel_rfl)) (fun _ h => by cases h)
              have t5 : a.tmps.getD 5 undef = .slice (some adw) k c5 := (H.old 5 (by kernel_rfl)).trans rfl
              exact step7_value (i := 42) rfl (wanted_at (j := 38) (d := 194) (b := true) rfl (by kernel_rfl) t194) (run_op_move rfl t5) (calm7 laterJ_later (by kernel_rfl) (by kernel_rfl) hj (later_refl _)) rfl
            · intro listed a W H hj hl hd
              have t194 : a.tmps.getD 194 undef = .bool true := H.get 38 194 (by kernel_rfl) (dep_of hd 38 (by kernel_rfl)) (fun _ h => by cases h)
              have t11 : a.tmps.getD 11 undef = .int .i64 (g : Int) := (H.old 11 (by kernel_rfl)).trans rfl
              exact step7_value (i := 43) rfl (wanted_at (j := 38) (d := 194) (b := true) rfl (by kernel_rfl) t194) (run_op_move rfl t11) (calm7 laterJ_later (by kernel_rfl) (by kernel_rfl) hj (later_refl _)) rfl
            · intro listed a W H hj hl hd
              have t194 : a.tmps.getD 194 undef = .bool true := H.get 38 194 (by kernel_rfl) (dep_of hd 38 (by kernel_rfl)) (fun _ h => by cases h)
              have t198 : a.tmps.getD 198 undef = .slice (some adw) k c5 := H.get 42 198 (by kernel_rfl) (dep_of hd 42 (by kernel_rfl)) (fun _ h => by cases h)
              have t199 : a.tmps.getD 199 undef = .int .i64 (g : Int) := H.get 43 199 (by kernel_rfl) (dep_of hd 43 (by kernel_rfl)) (fun _ h => by cases h)
              exact step7_value (i := 44) rfl (wanted_at (j := 38) (d := 194) (b := true) rfl (by kernel_rfl) t194) (run_op_index rfl t198 t199 (run_index_i adw k c5 g hgk W)) (calm7 laterJ_later (by kernel_rfl) (by kernel_rfl) hj (later_refl _)) rfl
            · intro listed a W H hj hl hd
              have t194 : a.tmps.getD 194 undef = .bool true := H.get 38 194 (by kernel_rfl) (dep_of hd 38 (by kernel_rfl)) (fun _ h => by cases h)
              have t200 : a.tmps.getD 200 undef = .pointer (some (adw.add g)) := H.get 44 200 (by kernel_rfl) (dep_of hd 44 (by kernel_rfl)) (fun _ h => by cases h)
              exact step7_value (i := 45) rfl (wanted_at (j := 38) (d := 194) (b := true) rfl (by kernel_rfl) t194) (run_op_load rfl t200 (run_load_int _ _ W (later_cell hj c3_))) (calm7 laterJ_later (by kernel_rfl) (by kernel_rfl) hj (later_refl _)) rfl
            · intro listed a W H hj hl hd
              have t194 : a.tmps.getD 194 undef = .bool true := H.get 38 194 (by kernel_rfl) (dep_of hd 38 (by kernel_rfl)) (fun _ h => by cases h)
              have t5 : a.tmps.getD 5 undef = .slice (some adw) k c5 := (H.old 5 (by kernel_rfl)).trans rfl
              exact step7_value (i := 46) rfl (wanted_at (j := 38) (d := 194) (b := true) rfl (by kernel_rfl) t194) (run_op_move rfl t5) (calm7 laterJ_later (by kernel_rfl) (by kernel_rfl) hj (later_refl _)) rfl
            · intro listed a W H hj hl hd
              have t194 : a.tmps.getD 194 undef = .bool true := H.get 38 194 (by kernel_rfl) (dep_of hd 38 (by kernel_rfl)) (fun _ h => by cases h)
              have t9 : a.tmps.getD 9 undef = .slice (some ado) i c1 := (H.old 9 (by kernel_rfl)).trans rfl
              exact step7_value (i := 47) rfl (wanted_at (j := 38) (d := 194) (b := true) rfl (by kernel_rfl) t194) (run_op_move rfl t9) (calm7 laterJ_later (by kernel_rfl) (by kernel_rfl) hj (later_refl _)) rfl
            · intro listed a W H hj hl hd
              have t194 : a.tmps.getD 194 undef = .bool true := H.get 38 194 (by kernel_rfl) (dep_of hd 38 (by kernel_rfl)) (fun _ h => by cases h)
              have t203 : a.tmps.getD 203 undef = .slice (some ado) i c1 := H.get 47 203 (by kernel_rfl) (dep_of hd 47 (by kernel_rfl)) (fun _ h => by cases h)
              exact step7_value (i := 48) rfl (wanted_at (j := 38) (d := 194) (b := true) rfl (by kernel_rfl) t194) (run_op_index rfl t203 rfl (run_index_z ado i c1 hi0 W)) (calm7 laterJ_later (by kernel_rfl) (by kernel_rfl) hj (later_refl _)) rfl
            · intro listed a W H hj hl hd
              have t194 : a.tmps.getD 194 undef = .bool true := H.get 38 194 (by kernel_rfl) (dep_of hd 38 (by kernel_rfl)) (fun _ h => by cases h)
              have t204 : a.tmps.getD 204 undef = .pointer (some (ado.add 0)) := H.get 48 204 (by kernel_rfl) (dep_of hd 48 (by kernel_rfl)) (fun _ h => by cases h)
              exact step7_value (i := 49) rfl (wanted_at (j := 38) (d := 194) (b := true) rfl (by kernel_rfl) t194) (run_op_load rfl t204 (run_load_int _ _ W (later_cell hj c1_))) (calm7 laterJ_later (by kernel_rfl) (by kernel_rfl) hj (later_refl _)) rfl
            · intro listed a W H hj hl hd
              have t194 : a.tmps.getD 194 undef = .bool true := H.get 38 194 (by kernel_rfl) (dep_of hd 38 (by kernel_rfl)) (fun _ h => by cases h)
              have t202 : a.tmps.getD 202 undef = .slice (some adw) k c5 := H.get 46 202 (by kernel_rfl) (dep_of hd 46 (by kernel_rfl)) (fun _ h => by cases h)
              have t205 : a.tmps.getD 205 undef = .int .i64 (f0 : Int) := H.get 49 205 (by kernel_rfl) (dep_of hd 49 (by kernel_rfl)) (fun _ h => by cases h)
              exact step7_value (i := 50) rfl (wanted_at (j := 38) (d := 194) (b := true) rfl (by kernel_rfl) t194) (run_op_index rfl t202 t205 (run_index_i adw k c5 f0 hf0 W)) (calm7 laterJ_later (by kernel_rfl) (by kernel_rfl) hj (later_refl _)) rfl
            · intro listed a W H hj hl hd
              have t194 : a.tmps.getD 194 undef = .bool true := H.get 38 194 (by kernel_rfl) (dep_of hd 38 (by kernel_rfl)) (fun _ h => by cases h)
              have t206 : a.tmps.getD 206 undef = .pointer (some (adw.add f0)) := H.get 50 206 (by kernel_rfl) (dep_of hd 50 (by kernel_rfl)) (fun _ h => by cases h)
              exact step7_value (i := 51) rfl (wanted_at (j := 38) (d := 194) (b := true) rfl (by kernel_rfl) t194) (run_op_load rfl t206 (run_load_int _ _ W (later_cell hj c5_))) (calm7 laterJ_later (by kernel_rfl) (by kernel_rfl) hj (later_refl _)) rfl
            · intro listed a W H hj hl hd
              have t194 : a.tmps.getD 194 undef = .bool true := H.get 38 194 (by kernel_rfl) (dep_of hd 38 (by kernel_rfl)) (fun _ h => by cases h)
              have t201 : a.tmps.getD 201 undef = .int .i64 yg := H.get 45 201 (by kernel_rfl) (dep_of hd 45 (by kernel_rfl)) (fun _ h => by cases h)
              have t207 : a.tmps.getD 207 undef = .int .i64 y0 := H.get 51 207 (by kernel_rfl) (dep_of hd 51 (by kernel_rfl)) (fun _ h => by cases h)
              exact step7_value (i := 52) rfl (wanted_at (j := 38) (d := 194) (b := true) rfl (by kernel_rfl) t194) (run_op_bin rfl t201 t207 (bin_sub _ _ _ yg y0 sp HDF.out (by omega) (by omega))) (calm7 laterJ_later (by kernel_rfl) (by kernel_rfl) hj (later_refl _)) rfl
            · intro listed a W H hj hl hd
              have t194 : a.tmps.getD 194 undef = .bool true := H.get 38 194 (by kernel_rfl) (dep_of hd 38 (by kernel_rfl)) (fun _ h => by cases h)
              have t197 : a.tmps.getD 197 undef = .int .i64 sp := H.get 41 197 (by kernel_rfl) (dep_of hd 41 (by kernel_rfl)) (fun _ h => by cases h)
              have t208 : a.tmps.getD 208 undef = .int .i64 sp := H.get 52 208 (by kernel_rfl) (dep_of hd 52 (by kernel_rfl)) (fun _ h => by cases h)
              exact step7_value (i := 53) rfl (wanted_at (j := 38) (d := 194) (b := true) rfl (by kernel_rfl) t194) (run_op_bin rfl t197 t208 (bin_eql _ _ _ sp sp true (by first | rfl | (simp; done) | (simp; omega) | decide))) (calm7 laterJ_later (by kernel_rfl) (by kernel_rfl) hj (later_refl _)) rfl
            · intro listed a W H hj hl hd
              have t194 : a.tmps.getD 194 undef = .bool true := H.get 38 194 (by kernel_rfl) (dep_of hd 38 (by kernel_rfl)) (fun _ h => by cases h)
              have t209 : a.tmps.getD 209 undef = .bool true := H.get 53 209 (by kernel_rfl) (dep_of hd 53 (by kernel_rfl)) (fun _ h => by cases h)
              exact step7_value (i := 54) rfl rfl (run_op_pick rfl t194 t209) (calm7 laterJ_later (by kernel_rfl) (by kernel_rfl) hj (later_refl _)) rfl
            · intro listed a W H hj hl hd
              have t210 : a.tmps.getD 210 undef = .bool true := H.get 54 210 (by kernel_rfl) (dep_of hd 54 (by kernel_rfl)) (fun _ h => by cases h)
              exact step7_value (i := 55) rfl rfl (run_op_move rfl t210) (calm7 laterJ_later (by kernel_rfl) (by kernel_rfl) hj (later_refl _)) rfl
            · intro listed a W H hj hl hd
              have t211 : a.tmps.getD 211 undef = .bool true := H.get 55 211 (by kernel_rfl) (dep_of hd 55 (by kernel_rfl)) (fun _ h => by cases h)
              have t5 : a.tmps.getD 5 undef = .slice (some adw) k c5 := (H.old 5 (by kernel_rfl)).trans rfl
              exact step7_value (i := 56) rfl (wanted_at (j := 55) (d := 211) (b := true) rfl (by kernel_rfl) t211) (run_op_move rfl t5) (calm7 laterJ_later (by kernel_rfl) (by kernel_rfl) hj (later_refl _)) rfl
            · intro listed a W H hj hl hd
              have t211 : a.tmps.getD 211 undef = .bool true := H.get 55 211 (by kernel_rfl) (dep_of hd 55 (by kernel_rfl)) (fun _ h => by cases h)
              have t6 : a.tmps.getD 6 undef = .slice (some adc) k c6 := (H.old 6 (by kernel_rfl)).trans rfl
              exact step7_value (i := 57) rfl (wanted_at (j := 55) (d := 211) (b := true) rfl (by kernel_rfl) t211) (run_op_move rfl t6) (calm7 laterJ_later (by kernel_rfl) (by kernel_rfl) hj (later_refl _)) rfl
            · intro listed a W H hj hl hd
              have t211 : a.tmps.getD 211 undef = .bool true := H.get 55 211 (by kernel_rfl) (dep_of hd 55 (by kernel_rfl)) (fun _ h => by cases h)
              have t212 : a.tmps.getD 212 undef = .slice (some adw) k c5 := H.get 56 212 (by kernel_rfl) (dep_of hd 56 (by kernel_rfl)) (fun _ h => by cases h)
              have t213 : a.tmps.getD 213 undef = .slice (some adc) k c6 := H.get 57 213 (by kernel_rfl) (dep_of hd 57 (by kernel_rfl)) (fun _ h => by cases h)
              refine step7_call (i := 58) rfl (wanted_at (j := 55) (d := 211) (b := true) rfl (by kernel_rfl) t211) (run_op_call (vs := #[.slice (some adw) k c5, .slice (some adc) k c6]) Try.func18 (by kernel_rfl) (by kernel_rfl) rfl (by simp only [List.map_toArray, List.map_cons, List.map_nil]; show #[a.tmps.getD 212 undef, a.tmps.getD 213 undef] = _; rw [t212, t213])) ?_
              refine (wuneven_any _ k _ xs _ k _ cs W (by omega) (by omega) (PD.out.since hj)).mono ?_
              rw [HUN.out]
              rintro e W3 ⟨rfl, hb3⟩
              exact ⟨_, rfl, (calm7 laterJ_later (by kernel_rfl) (by kernel_rfl) hj hb3.out), rfl⟩
            · intro listed a W H hj hl hd
              have t211 : a.tmps.getD 211 undef = .bool true := H.get 55 211 (by kernel_rfl) (dep_of hd 55 (by kernel_rfl)) (fun _ h => by cases h)
              have t5 : a.tmps.getD 5 undef = .slice (some adw) k c5 := (H.old 5 (by kernel_rfl)).trans rfl
              exact step7_value (i := 59) rfl (wanted_at (j := 55) (d := 211) (b := true) rfl (by kernel_rfl) t211) (run_op_move rfl t5) (calm7 laterJ_later (by kernel_rfl) (by kernel_rfl) hj (later_refl _)) rfl
            · intro listed a W H hj hl hd
              have t211 : a.tmps.getD 211 undef = .bool true := H.get 55 211 (by kernel_rfl) (dep_of hd 55 (by kernel_rfl)) (fun _ h => by cases h)
              have t11 : a.tmps.getD 11 undef = .int .i64 (g : Int) := (H.old 11 (by kernel_rfl)).trans rfl
              exact step7_value (i := 60) rfl (wanted_at (j := 55) (d := 211) (b := true) rfl (by kernel_rfl) t211) (run_op_move rfl t11) (calm7 laterJ_later (by kernel_rfl) (by kernel_rfl) hj (later_refl _)) rfl
            · intro listed a W H hj hl hd
              have t211 : a.tmps.getD 211 undef = .bool true := H.get 55 211 (by kernel_rfl) (dep_of hd 55 (by kernel_rfl)) (fun _ h => by cases h)
              have t215 : a.tmps.getD 215 undef = .slice (some adw) k c5 := H.get 59 215 (by kernel_rfl) (dep_of hd 59 (by kernel_rfl)) (fun _ h => by cases h)
              have t216 : a.tmps.getD 216 undef = .int .i64 (g : Int) := H.get 60 216 (by kernel_rfl) (dep_of hd 60 (by kernel_rfl)) (fun _ h => by cases h)
              exact step7_value (i := 61) rfl (wanted_at (j := 55) (d := 211) (b := true) rfl (by kernel_rfl) t211) (run_op_index rfl t215 t216 (run_index_i adw k c5 g hgk W)) (calm7 laterJ_later (by kernel_rfl) (by kernel_rfl) hj (later_refl _)) rfl
            · intro listed a W H hj hl hd
              have t211 : a.tmps.getD 211 undef = .bool true := H.get 55 211 (by kernel_rfl) (dep_of hd 55 (by kernel_rfl)) (fun _ h => by cases h)
              have t217 : a.tmps.getD 217 undef = .pointer (some (adw.add g)) := H.get 61 217 (by kernel_rfl) (dep_of hd 61 (by kernel_rfl)) (fun _ h => by cases h)
              exact step7_value (i := 62) rfl (wanted_at (j := 55) (d := 211) (b := true) rfl (by kernel_rfl) t211) (run_op_load rfl t217 (run_load_int _ _ W (later_cell hj c3_))) (calm7 laterJ_later (by kernel_rfl) (by kernel_rfl) hj (later_refl _)) rfl
            · intro listed a W H hj hl hd
              have t211 : a.tmps.getD 211 undef = .bool true := H.get 55 211 (by kernel_rfl) (dep_of hd 55 (by kernel_rfl)) (fun _ h => by cases h)
              have t5 : a.tmps.getD 5 undef = .slice (some adw) k c5 := (H.old 5 (by kernel_rfl)).trans rfl
              exact step7_value (i := 63) rfl (wanted_at (j := 55) (d := 211) (b := true) rfl (by kernel_rfl) t211) (run_op_move rfl t5) (calm7 laterJ_later (by kernel_rfl) (by kernel_rfl) hj (later_refl _)) rfl
            · intro listed a W H hj hl hd
              have t211 : a.tmps.getD 211 undef = .bool true := H.get 55 211 (by kernel_rfl) (dep_of hd 55 (by kernel_rfl)) (fun _ h => by cases h)
              have t9 : a.tmps.getD 9 undef = .slice (some ado) i c1 := (H.old 9 (by kernel_rfl)).trans rfl
              exact step7_value (i := 64) rfl (wanted_at (j := 55) (d := 211) (b := true) rfl (by kernel_rfl) t211) (run_op_move rfl t9) (calm7 laterJ_later (by kernel_rfl) (by kernel_rfl) hj (later_refl _)) rfl
            · intro listed a W H hj hl hd
              have t211 : a.tmps.getD 211 undef = .bool true := H.get 55 211 (by kernel_rfl) (dep_of hd 55 (by kernel_rfl)) (fun _ h => by cases h)
              have t220 : a.tmps.getD 220 undef = .slice (some ado) i c1 := H.get 64 220 (by kernel_rfl) (dep_of hd 64 (by kernel_rfl)) (fun _ h => by cases h)
              exact step7_value (i := 65) rfl (wanted_at (j := 55) (d := 211) (b := true) rfl (by kernel_rfl) t211) (run_op_index rfl t220 rfl (run_index_z ado i c1 hi0 W)) (calm7 laterJ_later (by kernel_rfl) (by kernel_rfl) hj (later_refl _)) rfl
            · intro listed a W H hj hl hd
              have t211 : a.tmps.getD 211 undef = .bool true := H.get 55 211 (by kernel_rfl) (dep_of hd 55 (by kernel_rfl)) (fun _ h => by cases h)
              have t221 : a.tmps.getD 221 undef = .pointer (some (ado.add 0)) := H.get 65 221 (by kernel_rfl) (dep_of hd 65 (by kernel_rfl)) (fun _ h => by cases h)
              exact step7_value (i := 66) rfl (wanted_at (j := 55) (d := 211) (b := true) rfl (by kernel_rfl) t211) (run_op_load rfl t221 (run_load_int _ _ W (later_cell hj c1_))) (calm7 laterJ_later (by kernel_rfl) (by kernel_rfl) hj (later_refl _)) rfl
            · intro listed a W H hj hl hd
              have t211 : a.tmps.getD 211 undef = .bool true := H.get 55 211 (by kernel_rfl) (dep_of hd 55 (by kernel_rfl)) (fun _ h => by cases h)
              have t219 : a.tmps.getD 219 undef = .slice (some adw) k c5 := H.get 63 219 (by kernel_rfl) (dep_of hd 63 (by kernel_rfl)) (fun _ h => by cases h)
              have t222 : a.tmps.getD 222 undef = .int .i64 (f0 : Int) := H.get 66 222 (by kernel_rfl) (dep_of hd 66 (by kernel_rfl)) (fun _ h => by cases h)
              exact step7_value (i := 67) rfl (wanted_at (j := 55) (d := 211) (b := true) rfl (by kernel_rfl) t211) (run_op_index rfl t219 t222 (run_index_i adw k c5 f0 hf0 W)) (calm7 laterJ_later (by kernel_rfl) (by kernel_rfl) hj (later_refl _)) rfl
            · intro listed a W H hj hl hd
              have t211 : a.tmps.getD 211 undef = .bool true := H.get 55 211 (by kernel_rfl) (dep_of hd 55 (by kernel_rfl)) (fun _ h => by cases h)
              have t223 : a.tmps.getD 223 undef = .pointer (some (adw.add f0)) := H.get 67 223 (by kernel_rfl) (dep_of hd 67 (by kernel_rfl)) (fun _ h => by cases h)
              exact step7_value (i := 68) rfl (wanted_at (j := 55) (d := 211) (b := true) rfl (by kernel_rfl) t211) (run_op_load rfl t223 (run_load_int _ _ W (later_cell hj c5_))) (calm7 laterJ_later (by kernel_rfl) (by kernel_rfl) hj (later_refl _)) rfl
            · intro listed a W H hj hl hd
              have t211 : a.tmps.getD 211 undef = .bool true := H.get 55 211 (by kernel_rfl) (dep_of hd 55 (by kernel_rfl)) (fun _ h => by cases h)
              have t218 : a.tmps.getD 218 undef = .int .i64 yg := H.get 62 218 (by kernel_rfl) (dep_of hd 62 (by kernel_rfl)) (fun _ h => by cases h)
              have t224 : a.tmps.getD 224 undef = .int .i64 y0 := H.get 68 224 (by kernel_rfl) (dep_of hd 68 (by kernel_rfl)) (fun _ h => by cases h)
              exact step7_value (i := 69) rfl (wanted_at (j := 55) (d := 211) (b := true) rfl (by kernel_rfl) t211) (run_op_bin rfl t218 t224 (bin_sub _ _ _ yg y0 sp HDF.out (by omega) (by omega))) (calm7 laterJ_later (by kernel_rfl) (by kernel_rfl) hj (later_refl _)) rfl
            · intro listed a W H hj hl hd
              have t211 : a.tmps.getD 211 undef = .bool true := H.get 55 211 (by kernel_rfl) (dep_of hd 55 (by kernel_rfl)) (fun _ h => by cases h)
              have t225 : a.tmps.getD 225 undef = .int .i64 sp := H.get 69 225 (by kernel_rfl) (dep_of hd 69 (by kernel_rfl)) (fun _ h => by cases h)
              exact step7_value (i := 70) rfl (wanted_at (j := 55) (d := 211) (b := true) rfl (by kernel_rfl) t211) (run_op_bin rfl t225 rfl (bin_gtr _ _ _ sp 4 un HUV.out)) (calm7 laterJ_later (by kernel_rfl) (by kernel_rfl) hj (later_refl _)) rfl
            · intro listed a W H hj hl hd
              have t211 : a.tmps.getD 211 undef = .bool true := H.get 55 211 (by kernel_rfl) (dep_of hd 55 (by kernel_rfl)) (fun _ h => by cases h)
              have t214 : a.tmps.getD 214 undef = .bool un := H.get 58 214 (by kernel_rfl) (dep_of hd 58 (by kernel_rfl)) (fun _ h => by cases h)
              have t226 : a.tmps.getD 226 undef = .bool un := H.get 70 226 (by kernel_rfl) (dep_of hd 70 (by kernel_rfl)) (fun _ h => by cases h)
              exact step7_value (i := 71) rfl (wanted_at (j := 55) (d := 211) (b := true) rfl (by kernel_rfl) t211) (run_op_bin rfl t214 t226 (bin_eqlB _ _ _ un un true (by first | rfl | (simp; done) | (simp; omega) | decide))) (calm7 laterJ_later (by kernel_rfl) (by kernel_rfl) hj (later_refl _)) rfl
            · intro listed a W H hj hl hd
              have t211 : a.tmps.getD 211 undef = .bool true := H.get 55 211 (by kernel_rfl) (dep_of hd 55 (by kernel_rfl)) (fun _ h => by cases h)
              have t227 : a.tmps.getD 227 undef = .bool true := H.get 71 227 (by kernel_rfl) (dep_of hd 71 (by kernel_rfl)) (fun _ h => by cases h)
              exact step7_value (i := 72) rfl rfl (run_op_pick rfl t211 t227) (calm7 laterJ_later (by kernel_rfl) (by kernel_rfl) hj (later_refl _)) rfl
            · intro listed a W H hj hl hd
              have t228 : a.tmps.getD 228 undef = .bool true := H.get 72 228 (by kernel_rfl) (dep_of hd 72 (by kernel_rfl)) (fun _ h => by cases h)
              exact step7_value (i := 73) rfl rfl (run_op_move rfl t228) (calm7 laterJ_later (by kernel_rfl) (by kernel_rfl) hj (later_refl _)) rfl
            · intro listed a W H hj hl hd
              have t229 : a.tmps.getD 229 undef = .bool true := H.get 73 229 (by kernel_rfl) (dep_of hd 73 (by kernel_rfl)) (fun _ h => by cases h)
              refine step7_call (i := 74) rfl (wanted_at (j := 73) (d := 229) (b := true) rfl (by kernel_rfl) t229) (run_op_call (vs := #[]) Try.func7 (by kernel_rfl) (by kernel_rfl) rfl (by simp)) ?_
              refine (wawake_any W).mono ?_
              rintro e W3 ⟨rfl, hb3⟩
              exact ⟨_, rfl, (calm7 laterJ_later (by kernel_rfl) (by kernel_rfl) hj hb3.out), rfl⟩
            · intro listed a W H hj hl hd
              have t229 : a.tmps.getD 229 undef = .bool true := H.get 73 229 (by kernel_rfl) (dep_of hd 73 (by kernel_rfl)) (fun _ h => by cases h)
              have t230 : a.tmps.getD 230 undef = .bool true := H.get 74 230 (by kernel_rfl) (dep_of hd 74 (by kernel_rfl)) (fun _ h => by cases h)
              exact step7_value (i := 75) rfl rfl (run_op_pick rfl t229 t230) (calm7 laterJ_later (by kernel_rfl) (by kernel_rfl) hj (later_refl _)) rfl
            · intro listed a W H hj hl hd
              have t231 : a.tmps.getD 231 undef = .bool true := H.get 75 231 (by kernel_rfl) (dep_of hd 75 (by kernel_rfl)) (fun _ h => by cases h)
              exact step7_value (i := 76) rfl rfl (run_op_assign rfl t231) (calm7 laterJ_later (by kernel_rfl) (by kernel_rfl) hj (later_refl _)) rfl
          · intro a WC hdef hsz hw hall hact
            obtain ⟨u, hu⟩ : ∃ u : Nat → Value, ∀ k, a.tmps.getD k undef = u k := ⟨_, fun _ => rfl⟩
            have h4 : u 4 = .bool true := by rw [← hu]; exact hall 76 _ rfl
            simp only [hu] at hact
            have hact' : a = ([156, 157, 158, 159, 160, 161, 162, 163, 164, 165, 166, 167, 168, 169, 170, 171, 172, 173, 174, 175, 176, 177, 178, 179, 180, 181, 182, 183, 184, 185, 186, 187, 188, 189, 190, 191, 192, 193, 194, 195, 196, 197, 198, 199, 200, 201, 202, 203, 204, 205, 206, 207, 208, 209, 210, 211, 212, 213, 214, 215, 216, 217, 218, 219, 220, 221, 222, 223, 224, 225, 226, 227, 228, 229, 230, 231, 4] : List Nat).foldl (fun b k => b.put (some k) (u k)) _ := hact
            simp only [List.foldl] at hact'
            simp only [Act.put, List.setIfInBounds_toArray, List.set_cons_succ, List.set_cons_zero] at hact'
            have HAC := Lib.hid hact'
            have HX := Lib.hid hw
            clear hact hact' hall hdef hsz hw
            rw [h4] at HAC
            rw [HAC.out]
            have BC := Lib.hid (below_chain BD.out HX.out)
            clear PD OD BD HX HWD hu h4
            go_wp2_with fail
            go_ret
            exact ⟨rfl, BC⟩
end Go.Proofs.Ytggijifealljiaa
