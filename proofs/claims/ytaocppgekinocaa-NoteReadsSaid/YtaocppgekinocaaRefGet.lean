/- The document's own Get: the same answers. Conditions: the slice's cells; at most 900 bytes. -/
import Derived.Test.YtaocppgekinocaaRefPack
import Derived.Test.YtaocppgekinocaaRegion
set_option linter.unusedVariables false
set_option linter.unusedSimpArgs false
namespace Go.Proofs.Ytaocppgekinocaa
open Go.RowKit

/-- What the document's own Get has read behind k bytes. -/
def RefAt (bs : List Nat) (k u : Nat) : Prop := (k ≤ 9 ∧ u = Pk.val (bs.take k) ∧ ∀ b ∈ bs.take k, 128 ≤ b) ∨ (k = 10 ∧ Pk.get 0 0 bs = none)
theorem refAt_get {bs : List Nat} {k u : Nat} (h : RefAt bs k u) (hk : k ≤ 9) (hl : k ≤ bs.length) : u < 128 ^ k ∧ Pk.get 0 0 bs = Pk.get k u (bs.drop k) := by
  rcases h with ⟨_, hu, ha⟩ | ⟨h10, _⟩
  · have hlen : (bs.take k).length = k := List.length_take_of_le hl
    refine ⟨by rw [hu]; have := Pk.val_lt (bs.take k); rwa [hlen] at this, ?_⟩
    have := Pk.get_prefix ha (by omega) (bs.drop k)
    rw [List.take_append_drop, hlen, ← hu] at this
    exact this
  · omega
def nextU (u b k : Nat) : Nat := u + b % 128 * 128 ^ k % 18446744073709551616
theorem nextU_eq {u b k : Nat} (hk : k ≤ 9) (h9 : ¬(k = 9 ∧ 1 < b)) : nextU u b k = u + b % 128 * 128 ^ k := by
  unfold nextU
  rw [Nat.mod_eq_of_lt]
  rcases (by omega : k ≤ 8 ∨ k = 9) with h | rfl
  · have h1 : b % 128 * 128 ^ k ≤ 127 * 128 ^ 8 := Nat.mul_le_mul (by omega) (Nat.pow_le_pow_right (by omega) h)
    exact Nat.lt_of_le_of_lt h1 (by decide)
  · rw [Pk.pow9]; omega
theorem nextU_lt {u b k : Nat} (hu : u < 128 ^ k) (hk : k ≤ 9) : nextU u b k < 18446744073709551616 := by
  unfold nextU
  have e : (128 : Nat) ^ k * (18446744073709551616 / 128 ^ k) = 18446744073709551616 ∧ 0 < (128 : Nat) ^ k := by
    have all : ∀ j : Fin 10, (128 : Nat) ^ j.val * (18446744073709551616 / 128 ^ j.val) = 18446744073709551616 ∧ 0 < (128 : Nat) ^ j.val := by decide
    exact all ⟨k, by omega⟩
  obtain ⟨q, hq⟩ : ∃ q, q = 18446744073709551616 / 128 ^ k := ⟨_, rfl⟩
  rw [← hq] at e
  have hm : b % 128 * 128 ^ k % 18446744073709551616 = (b % 128 % q) * 128 ^ k := by
    rw [← e.1, Nat.mul_comm (128 ^ k) q, Nat.mul_mod_mul_right]
  rw [hm]
  have hq0 : 0 < q := by
    rcases Nat.eq_zero_or_pos q with h | h
    · rw [h] at e; omega
    · exact h
  have h1 : b % 128 % q + 1 ≤ q := Nat.mod_lt _ hq0
  have h2 := Nat.mul_le_mul_right (128 ^ k) h1
  rw [Nat.add_mul, Nat.one_mul, Nat.mul_comm q, e.1] at h2
  omega
theorem refAt_next {bs : List Nat} {k u b : Nat} (h : RefAt bs k u) (hk : k ≤ 9) (hl : k < bs.length) (hb : bs.getD k 0 = b) (h128 : 128 ≤ b) : RefAt bs (k + 1) (nextU u b k) := by
  rcases (by omega : k ≤ 8 ∨ k = 9) with h8 | h9
  · rcases h with ⟨_, hu, ha⟩ | ⟨h10, _⟩
    · refine Or.inl ⟨by omega, ?_, ?_⟩
      · rw [nextU_eq hk (by omega), take_succ_getD hl, hb, Pk.val_snoc, List.length_take_of_le (by omega), ← hu]
      · rw [take_succ_getD hl, hb]
        intro c hc
        rcases List.mem_append.1 hc with hc | hc
        · exact ha c hc
        · simp at hc; omega
    · omega
  · refine Or.inr ⟨by omega, ?_⟩
    rw [(refAt_get h hk (by omega)).2, drop_cons hl, hb, Pk.get_over h9 (by omega)]
theorem refAt_end {bs : List Nat} {k u b : Nat} (h : RefAt bs k u) (hsm : ∀ c ∈ bs, c < 256) (hk : k ≤ 9) (hl : k < bs.length) (hb : bs.getD k 0 = b) (h128 : b < 128) :
    (Pk.put (nextU u b k) = bs.take (k + 1) → Pk.get 0 0 bs = some (nextU u b k, bs.drop (k + 1))) ∧ (¬ Pk.put (nextU u b k) = bs.take (k + 1) → Pk.get 0 0 bs = none) := by
  have hg := refAt_get h hk (by omega)
  constructor
  · intro e
    have := Pk.get_put (v := nextU u b k) (bs.drop (k + 1)) (nextU_lt hg.1 hk)
    rwa [e, List.take_append_drop] at this
  · intro hne
    rw [hg.2, drop_cons hl, hb]
    by_cases h9 : k = 9 ∧ 1 < b
    · exact Pk.get_over h9.1 h9.2
    · by_cases h0 : b = 0 ∧ 0 < k
      · rw [h0.1]; exact Pk.get_zero h0.2
      · exfalso
        apply hne
        have ht : Pk.get 0 0 (bs.take (k + 1)) = some (nextU u b k, []) := by
          rcases h with ⟨_, hu, ha⟩ | ⟨h10, _⟩
          · have := Pk.get_prefix ha (by rw [List.length_take_of_le (by omega)]; omega) [b]
            rw [take_succ_getD hl, hb, this, List.length_take_of_le (by omega), ← hu, Pk.get_end h9 h128 h0, nextU_eq hk h9, Nat.mod_eq_of_lt h128]
          · omega
        obtain ⟨v, e1, e2, _⟩ := Pk.get_some (fun c hc => hsm c (List.mem_of_mem_take hc)) (by omega) ht
        rw [List.append_nil] at e1
        rw [Nat.zero_add, Nat.pow_zero, Nat.mul_one] at e2
        rw [e1, e2]
theorem and127 {z : Int} {b : Nat} (HZ : (b : Int) = z) (hb : b < 256) : bits .and .u8 z 127 = ((b % 128 : Nat) : Int) := by
  rw [← HZ, show (127 : Int) = ((127 : Nat) : Int) by rfl, u8_and_nat b 127 hb (by omega)]
  exact congrArg _ (nat_mask7 b)
theorem or_next {y d : Int} {u b k : Nat} (HY : y = (u : Int)) (HD : d = ((b % 128 : Nat) : Int)) (hu : u < 128 ^ k) (hk : k ≤ 9) :
    bits .or .u64 y (IntKind.u64.wrap (IntKind.u64.wrap d * 2 ^ (7 * k))) = ((nextU u b k : Nat) : Int) := by
  have hlt := nextU_lt (b := b) hu hk
  have e1 : IntKind.u64.wrap d = d := wrap_lit (by omega) (by omega)
  have e2 : d * 2 ^ (7 * k) = ((b % 128 * 128 ^ k : Nat) : Int) := by rw [HD, pow128]; simp
  have e3 : IntKind.u64.wrap ((b % 128 * 128 ^ k : Nat) : Int) = ((b % 128 * 128 ^ k % 18446744073709551616 : Nat) : Int) := by rw [IntKind.wrap_u64]; omega
  unfold nextU at hlt ⊢
  rw [e1, e2, e3, HY, u64_or_nat _ _ (by omega) (by omega), Nat.or_comm]
  congr 1
  have hdiv : b % 128 * 128 ^ k % 18446744073709551616 % 2 ^ (7 * k) = 0 := by
    have e : (2 : Nat) ^ (7 * k) = 128 ^ k := by rw [Nat.pow_mul]
    rw [e]
    have all : ∀ j : Fin 10, 128 ^ j.val ∣ 18446744073709551616 := by decide
    rw [Nat.mod_mod_of_dvd _ (all ⟨k, by omega⟩)]
    exact Nat.mul_mod_left _ _
  have hj := nat_join (7 * k) (b % 128 * 128 ^ k % 18446744073709551616) u hdiv (by rw [show (2 : Nat) ^ (7 * k) = 128 ^ k by rw [Nat.pow_mul]]; exact hu)
  omega
set_option maxHeartbeats 4000000 in
theorem refget_any (A : Option Addr) (n c : Nat) (bs : List Nat) (w : World) (hn : n ≤ 900) (hc : n ≤ c) (hA : Bytes w w.heap.size A n bs) :
    Calls Try.prog 40 #[.slice A n c] w (Got w (Pk.get 0 0 bs)) := by
  have HA := Lib.hid hA
  clear hA
  go_enter Try.func40, Try.ntmps40
  go_wp2_with fail
  go_loop [5, 6] (fun t5 t6 => ∃ (k u : Nat) (y : Int), t5 = .int .u64 y ∧ t6 = .int .i64 k ∧ k ≤ n ∧ k ≤ 10 ∧ 0 ≤ y ∧ y ≤ 18446744073709551615 ∧ Hid (y = (u : Int)) ∧ Hid (RefAt bs k u)) (fun _ t6 => n - (intOf t6).toNat)
  case atStart => exact ⟨0, 0, 0, rfl, rfl, by omega, by omega, by omega, by omega, rfl, Or.inl ⟨by omega, by simp [Pk.val], by simp⟩⟩
  case round =>
    obtain ⟨k, u, y, rfl, rfl, hk, hk10, hy0, hy1, HY, HR⟩ := hrel
    by_cases hlt : k < n
    · by_cases h10 : k < 10
      · obtain ⟨ad, hA, hblk, hcell⟩ := HA.out.at_ hlt
        have hsm := HA.out.small k
        have HKL : Hid (k < bs.length) := by show _ < _; rw [HA.out.len]; exact hlt
        obtain ⟨b, HBB⟩ : ∃ b : Nat, Hid (bs.getD k 0 = b) := ⟨_, rfl⟩
        rw [HBB.out] at hcell hsm
        obtain ⟨z, hz0, hz1, HZ⟩ : ∃ z : Int, 0 ≤ z ∧ z ≤ 255 ∧ Hid ((b : Int) = z) := ⟨_, by omega, by omega, rfl⟩
        rw [HZ.out] at hcell
        subst hA
        obtain ⟨d, hd, HD⟩ : ∃ d : Int, bits .and .u8 z 127 = d ∧ Hid (d = ((b % 128 : Nat) : Int)) := ⟨_, rfl, and127 HZ.out hsm⟩
        have hgu := refAt_get HR.out (by omega) (by have := HKL.out; omega)
        have hor := or_next HY.out HD.out hgu.1 (by omega)
        have hul := nextU_lt (b := b) hgu.1 (show k ≤ 9 by omega)
        obtain ⟨u2, HU2⟩ : ∃ u2 : Nat, Hid (u2 = nextU u b k) := ⟨_, rfl⟩
        rw [← HU2.out] at hor hul
        obtain ⟨p, HP⟩ : ∃ p : Int, Hid (p = (u2 : Int)) := ⟨_, rfl⟩
        have hp0 : 0 ≤ p := by rw [HP.out]; exact Int.natCast_nonneg _
        have hp1 : p ≤ 18446744073709551615 := by rw [HP.out]; omega
        rw [← HP.out] at hor
        have HOR := Lib.hid hor
        have i0 : (0 : Int) ≤ (k : Int) := by omega
        have i1 : (k : Int) < (n : Int) := by omega
        clear hor hsm hgu hul
        by_cases h128 : 128 ≤ z
        · have HR2 : Hid (RefAt bs (k + 1) u2) := by
            rw [HU2.out]; exact refAt_next HR.out (by omega) HKL.out HBB.out (by have := HZ.out; omega)
          go_wp2_with (simp only [HOR.out])
          first
            | (go_round
               case rel => exact ⟨k + 1, u2, p, rfl, by go_num, by omega, by omega, hp0, hp1, HP, HR2⟩
               case measure => simp [intOf]; omega)
            | (refine ⟨⟨k + 1, u2, p, rfl, by go_num, by omega, by omega, hp0, hp1, HP, HR2⟩, by simp [intOf]; omega⟩)
        · have HEND := Lib.hid (refAt_end HR.out HA.out.lt256 (by omega) HKL.out HBB.out (by have := HZ.out; omega))
          go_wp2_with (simp only [HOR.out])
          obtain ⟨W0, HW0⟩ : ∃ W0 : World, Hid (W0 = w.drew) := ⟨_, rfl⟩
          have HBY : Hid (Bytes W0 W0.heap.size (some ad) n bs) := by rw [HW0.out]; show Bytes _ _ _ _ _; exact HA.out.drewN 1
          have HC : Hid (n ≤ c) := hc
          have S0 : Hid (Below w.heap.size w W0) := by rw [HW0.out]; exact (Below.refl _ _).drew
          obtain ⟨bb, HBB2⟩ : ∃ bb : Bool, Hid ((strOf (Pk.put u2) != strOf (bs.take (k + 1))) = bb) := ⟨_, rfl⟩
          refine region_of_steps2 (by kernel_rfl) (fact2Of [.is (.int .u64 p), .own W0.heap.size (Pk.put u2).length (Pk.put u2), .is (.string (strOf (Pk.put u2))), .is (.slice (some ad) n c), .is (.int .i64 (k : Int)), .is (.int .i64 ((k + 1 : Nat) : Int)), .is (.slice (some ad) (k + 1) c), .is (.string (strOf (bs.take (k + 1)))), .is (.bool bb)]) (deadOf []) Calm (fun W => Below W0.heap.size W0 W ∧ W0.heap.size ≤ W.heap.size) (by kernel_rfl)
            (fun i j v w w' _ _ _ h hR => fact2_calm _ i j v w w' h hR) (fun j w w' h k => calm_inv h k) ⟨by rw [HW0.out]; exact Below.refl _ _, by rw [HW0.out]; exact Nat.le_refl _⟩ ?_ ?_
          · refine Steps2.cons ?_ (Steps2.cons ?_ (Steps2.cons ?_ (Steps2.cons ?_ (Steps2.cons ?_ (Steps2.cons ?_ (Steps2.cons ?_ (Steps2.cons ?_ (Steps2.cons ?_ (Steps2.nil)))))))))
            · intro listed a W H hw hl hd
              have t5 : a.tmps.getD 5 undef = .int .u64 p := (H.old 5 (by kernel_rfl)).trans rfl
              exact step2_value (i := 0) rfl rfl (run_op_move rfl t5) (calm_refl _) rfl
            · intro listed a W H hw hl hd
              have t33 : a.tmps.getD 33 undef = .int .u64 p := H.get 0 33 (by kernel_rfl) (dep_of hd 0 (by kernel_rfl)) (alive_none (by kernel_rfl))
              refine step2_call (i := 1) rfl rfl (run_op_call (vs := #[.slice none 0 0, .int .u64 p]) Try.func41 (by kernel_rfl) (by kernel_rfl) rfl (by simp only [List.map_toArray, List.map_cons, List.map_nil]; show #[.slice none 0 0, a.tmps.getD 33 undef] = _; rw [t33])) ?_
              refine (refput_any none 0 0 [] p u2 W hp0 hp1 HP.out (by omega) Bytes.none_).mono ?_
              rw [List.nil_append]
              rintro e W2 ⟨A2, n2, c2, rfl, ho, hb⟩
              obtain rfl : (Pk.put u2).length = n2 := ho.len
              exact ⟨_, rfl, calm_later hb, A2, c2, rfl, ho.elder hw.2⟩
            · intro listed a W H hw hl hd
              obtain ⟨A34, q34, t34, o34⟩ := H.get 1 34 (by kernel_rfl) (dep_of hd 1 (by kernel_rfl)) (alive_none (by kernel_rfl))
              exact step2_value (i := 2) rfl rfl (run_op_convert rfl t34 (conv_bytes o34.bytes _)) (calm_refl _) rfl
            · intro listed a W H hw hl hd
              have t0 : a.tmps.getD 0 undef = .slice (some ad) n c := (H.old 0 (by kernel_rfl)).trans rfl
              exact step2_value (i := 3) rfl rfl (run_op_move rfl t0) (calm_refl _) rfl
            · intro listed a W H hw hl hd
              have t6 : a.tmps.getD 6 undef = .int .i64 (k : Int) := (H.old 6 (by kernel_rfl)).trans rfl
              exact step2_value (i := 4) rfl rfl (run_op_move rfl t6) (calm_refl _) rfl
            · intro listed a W H hw hl hd
              have t37 : a.tmps.getD 37 undef = .int .i64 (k : Int) := H.get 4 37 (by kernel_rfl) (dep_of hd 4 (by kernel_rfl)) (alive_none (by kernel_rfl))
              exact step2_value (i := 5) rfl rfl (run_op_bin rfl t37 rfl (run_add_i64 _ _ _ _ _ (by omega) (by omega) (by omega) _)) (calm_refl _) rfl
            · intro listed a W H hw hl hd
              have t36 : a.tmps.getD 36 undef = .slice (some ad) n c := H.get 3 36 (by kernel_rfl) (dep_of hd 3 (by kernel_rfl)) (alive_none (by kernel_rfl))
              have t38 : a.tmps.getD 38 undef = .int .i64 ((k + 1 : Nat) : Int) := H.get 5 38 (by kernel_rfl) (dep_of hd 5 (by kernel_rfl)) (alive_none (by kernel_rfl))
              exact step2_value (i := 6) rfl rfl (run_op_slice rfl (by show (Instr.sliceAt 25 (a.tmps.getD 36 undef) none (some (a.tmps.getD 38 undef)) none).run _ _ = _; rw [t36, t38]; rw [run_sliceAt_slice (h := under24)]; exact slice_to (some ad) n c (k + 1) (by omega) HC.out W)) (calm_refl _) rfl
            · intro listed a W H hw hl hd
              have t39 : a.tmps.getD 39 undef = .slice (some ad) (k + 1) c := H.get 6 39 (by kernel_rfl) (dep_of hd 6 (by kernel_rfl)) (alive_none (by kernel_rfl))
              exact step2_value (i := 7) rfl rfl (run_op_convert rfl t39 (conv_bytes ((HBY.out.first (by omega)).since hw.1) _)) (calm_refl _) rfl
            · intro listed a W H hw hl hd
              have t35 : a.tmps.getD 35 undef = .string (strOf (Pk.put u2)) := H.get 2 35 (by kernel_rfl) (dep_of hd 2 (by kernel_rfl)) (alive_none (by kernel_rfl))
              have t40 : a.tmps.getD 40 undef = .string (strOf (bs.take (k + 1))) := H.get 7 40 (by kernel_rfl) (dep_of hd 7 (by kernel_rfl)) (alive_none (by kernel_rfl))
              exact step2_value (i := 8) rfl rfl (run_op_bin rfl t35 t40 (run_neq_str _ _ _ _ _ HBB2.out _)) (calm_refl _) rfl
          · intro a W hdef hsz hw hall hact
            have t41 : a.tmps.getD 41 undef = .bool bb := hall 8 _ rfl (by kernel_rfl)
            obtain ⟨us, hu⟩ : ∃ us : Nat → Value, ∀ k, a.tmps.getD k undef = us k := ⟨_, fun _ => rfl⟩
            simp only [hu] at hact t41
            have hact' : a = ([33, 34, 35, 36, 37, 38, 39, 40, 41] : List Nat).foldl (fun b k => b.put (some k) (us k)) _ := hact
            simp only [List.foldl, t41] at hact'
            simp only [Act.put, List.setIfInBounds_toArray, List.set_cons_succ, List.set_cons_zero] at hact'
            have HACT := Lib.hid hact'
            clear hu hact hact' hall hdef hsz
            have S7 := Lib.hid (S0.out.trans (hw.1.mono S0.out.size))
            have HBY7 := Lib.hid (HBY.out.since hw.1)
            clear hw t41
            rw [HACT.out]
            by_cases heq : Pk.put u2 = bs.take (k + 1)
            · have hbb : bb = false := by rw [← HBB2.out, heq]; exact strOf_same _
              subst hbb
              have HG : Hid (Pk.get 0 0 bs = some (u2, bs.drop (k + 1))) := by
                have := HEND.out.1
                rw [← HU2.out] at this
                exact this heq
              have hsl : ∀ W : World, (Instr.slice 25 (.slice (some ad) n c) (some (.int .i64 ((k : Int) + 1))) none none).run Try.prog W = .ok (.slice (if c = k + 1 then some ad else (some ad).map (·.add ((k + 1) * 1))) (n - (k + 1)) (c - (k + 1))) W := fun W => by
                have := slice_from (some ad) n c (k + 1) (by omega) W
                rwa [show ((k + 1 : Nat) : Int) = (k : Int) + 1 by omega] at this
              obtain ⟨A5, HA5⟩ : ∃ A5 : Option Addr, Hid (A5 = if c = k + 1 then some ad else (some ad).map (·.add ((k + 1) * 1))) := ⟨_, rfl⟩
              rw [← HA5.out] at hsl
              have hB5 : Bytes W W.heap.size A5 (n - (k + 1)) (bs.drop (k + 1)) := by
                rw [HA5.out]; exact HBY7.out.rest (by omega) HC.out
              obtain ⟨A6, c6, W6, hr6, ho6, hb6⟩ := own_append (c' := c - (k + 1)) (Below.refl W.heap.size W) Own.none_ hB5 (by omega)
              rw [Nat.zero_add] at hr6 ho6
              rw [List.nil_append] at ho6
              have R6 := Lib.hid hr6
              have HO6 := Lib.hid (ho6.elder (base' := w.heap.size) S7.out.size)
              have HB6 := Lib.hid (below_chain S7.out hb6)
              clear hr6 ho6 hb6 hB5 heq
              go_wp2_with (at_builtin; refine wpList_append_run rfl (.const (.slice none 0 0)) (.tmp 46) 25 rfl rfl rfl R6.out ?_)
              go_ret3
              rw [HG.out]
              exact ⟨p, A6, _, c6, rfl, HP, hp0, hp1, by omega, HO6, HB6⟩
            · have hbb : bb = true := by
                rw [← HBB2.out]
                exact strOf_other (Pk.put_byte _) (fun c hc => HA.out.lt256 c (List.mem_of_mem_take hc)) heq
              subst hbb
              have HG : Hid (Pk.get 0 0 bs = none) := by
                have := HEND.out.2
                rw [← HU2.out] at this
                exact this heq
              clear heq
              go_wp2_with fail
              go_ret3
              rw [HG.out]
              exact ⟨rfl, S7⟩
      · have HN : Hid (Pk.get 0 0 bs = none) := by
          rcases HR.out with ⟨h9, _⟩ | ⟨_, h⟩
          · omega
          · exact h
        go_wp2_with fail
        go_ret3
        rw [HN.out]
        exact ⟨rfl, Below.refl _ _⟩
    · have HN : Hid (Pk.get 0 0 bs = none) := by
        rcases HR.out with ⟨h9, hh⟩ | ⟨_, h⟩
        · show _ = _
          rw [(refAt_get HR.out h9 (by rw [HA.out.len]; exact hk)).2, List.drop_eq_nil_of_le (by rw [HA.out.len]; omega), Pk.get_nil]
        · exact h
      go_wp2_with fail
      go_ret3
      rw [HN.out]
      exact ⟨rfl, Below.refl _ _⟩
end Go.Proofs.Ytaocppgekinocaa
