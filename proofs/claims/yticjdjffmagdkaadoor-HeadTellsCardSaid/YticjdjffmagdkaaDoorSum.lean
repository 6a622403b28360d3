/- Package sum's contracts: More, Of. Conditions: what the two tables hold; the slices' cells. -/
import Derived.Test.YticjdjffmagdkaaDoorBase
import Derived.Test.YticjdjffmagdkaaDoorCrc
set_option linter.unusedVariables false
set_option linter.unusedSimpArgs false
namespace Go.Proofs.YticjdjffmagdkaaDoor
open Go.RowKit

/- what the two tables hold -/
structure Tabs (w : World) : Prop where
  low : ∀ i, i < 16 → w.cell? ⟨1, i, none⟩ = some (.int .u32 ((Crc.lowerT.getD i 0 : Nat) : Int))
  high : ∀ i, i < 16 → w.cell? ⟨2, i, none⟩ = some (.int .u32 ((Crc.higherT.getD i 0 : Nat) : Int))
theorem Tabs.drewN {w : World} (h : Tabs w) (n : Nat) : Tabs (w.drewN n) := ⟨h.low, h.high⟩
theorem Tabs.since {w w' : World} (h : Tabs w) (hb : Below w.heap.size w w') : Tabs w' :=
  ⟨fun i hi => (hb.cell (World.block_lt_of_cell? w _ (h.low i hi))).trans (h.low i hi), fun i hi => (hb.cell (World.block_lt_of_cell? w _ (h.high i hi))).trans (h.high i hi)⟩
theorem Tabs.alloc {w : World} (h : Tabs w) (o : Obj) : Tabs (w.alloc o) := h.since ((Below.refl _ _).alloc (Nat.le_refl _) o)
/- the walk's words for bits, as the mathematics has them -/
theorem lower_lt (k : Nat) : Crc.lowerT.getD k 0 < 4294967296 := by
  by_cases h : k < 16
  · have all : ∀ j : Fin 16, Crc.lowerT.getD j.val 0 < 4294967296 := by decide
    exact all ⟨k, h⟩
  · rw [List.getD_eq_getElem?_getD, List.getElem?_eq_none (by simp only [Crc.lowerT, List.length_cons, List.length_nil]; omega)]; simp
theorem higher_lt (k : Nat) : Crc.higherT.getD k 0 < 4294967296 := by
  by_cases h : k < 16
  · have all : ∀ j : Fin 16, Crc.higherT.getD j.val 0 < 4294967296 := by decide
    exact all ⟨k, h⟩
  · rw [List.getD_eq_getElem?_getD, List.getElem?_eq_none (by simp only [Crc.higherT, List.length_cons, List.length_nil]; omega)]; simp
theorem index_val {r y : Int} {R b : Nat} (hr : r = R) (hy : (b : Int) = y) (hb : b < 256) : bits .xor .u8 (r % 256) y = (((R % 256) ^^^ b : Nat) : Int) := by
  subst hr hy
  have e : ((R : Int) % 256) = ((R % 256 : Nat) : Int) := by omega
  rw [e]
  exact u8_xor_nat _ _ (Nat.mod_lt _ (by omega)) hb
theorem low_val {z : Int} {Z : Nat} (hz : z = Z) (h : Z < 256) : bits .and .u8 z 15 = ((Z % 16 : Nat) : Int) := by
  subst hz
  have := u8_and_nat Z 15 h (by omega)
  rw [nat_mask4] at this
  exact this
theorem step_val {r z q a b : Int} {R : BitVec 32} {bn : Nat} (hb : bn < 256) (hr : r = ((R.toNat : Nat) : Int)) (hz : z = (((R.toNat % 256) ^^^ bn : Nat) : Int)) (hq : q = (((((R.toNat % 256) ^^^ bn) % 16 : Nat)) : Int))
    (ha : ((Crc.lowerT.getD q.toNat 0 : Nat) : Int) = a) (hbb : ((Crc.higherT.getD (z / 16).toNat 0 : Nat) : Int) = b) :
    bits .xor .u32 (bits .xor .u32 (r / 256) a) b = (((Crc.byte R bn).toNat : Nat) : Int) := by
  rw [Crc.byte_table R bn hb]
  subst ha hbb
  subst hq
  rw [show (z / 16).toNat = ((R.toNat % 256) ^^^ bn) / 16 by rw [hz]; omega, hr, show ((R.toNat : Nat) : Int) / 256 = ((R.toNat / 256 : Nat) : Int) by omega, Int.toNat_natCast]
  have hR := R.isLt
  rw [u32_xor_nat _ _ (by omega) (lower_lt _), u32_xor_nat _ _ (Nat.xor_lt_two_pow (n := 32) (by omega) (lower_lt _)) (higher_lt _)]
theorem not_val (s : BitVec 32) : bits .xor .u32 IntKind.u32.max (s.toNat : Int) = (((~~~ s).toNat : Nat) : Int) := by
  have h := u32_xor_nat 4294967295 s.toNat (by omega) s.isLt
  have e : (IntKind.u32.max : Int) = ((4294967295 : Nat) : Int) := rfl
  rw [e, h]
  have e2 : ~~~ s = BitVec.allOnes 32 ^^^ s := by rw [BitVec.allOnes_xor]
  rw [e2, BitVec.toNat_xor]
  rfl
theorem reg_snoc (r : BitVec 32) (bs : List Nat) (k : Nat) (h : k < bs.length) : Crc.reg r (bs.take (k + 1)) = Crc.byte (Crc.reg r (bs.take k)) (bs.getD k 0) := by
  rw [List.take_succ_eq_append_getElem h, Crc.reg_append, List.getD_eq_getElem?_getD, List.getElem?_eq_getElem h]
  rfl

set_option maxHeartbeats 1000000 in
theorem more_int (x : Int) (s : BitVec 32) (A : Option Addr) (n c : Nat) (bs : List Nat) (w : World) (h0 : 0 ≤ x) (h1 : x ≤ 4294967295) (HX : Hid (x = ((s.toNat : Nat) : Int))) (hn : n ≤ 9223372036854775807) (hT : Tabs w) (hA : Bytes w w.heap.size A n bs) :
    Calls Tryd.prog 35 #[.int .u32 x, .slice A n c] w fun e w' => e = .returned (.int .u32 ((Crc.more s bs).toNat : Int)) ∧ ∃ m, w' = w.drewN m := by
  have HT := Lib.hid hT
  have HA := Lib.hid hA
  clear hT hA
  go_enter Tryd.func35, Tryd.ntmps35
  go_wp2
  go_loopw [5, 13] (fun t5 t13 wr => ∃ (k m : Nat) (r : Int), k ≤ n ∧ t13 = .int .i64 k ∧ wr = w.drewN m ∧ t5 = .int .u32 r ∧ 0 ≤ r ∧ r ≤ 4294967295 ∧ Hid (r = (((Crc.reg (~~~ s) (bs.take k)).toNat : Nat) : Int))) (fun _ t13 _ => n - (intOf t13).toNat)
  case atStart =>
    have e := not_val s
    rw [← HX.out] at e
    have hl := (~~~ s).isLt
    exact ⟨0, 0, _, Nat.zero_le _, rfl, rfl, rfl, by rw [e]; omega, by rw [e]; omega, e⟩
  case round =>
    obtain ⟨k, m, r, hk, rfl, rfl, rfl, hr0, hr1, HR⟩ := hrel
    by_cases hlt : k < n
    · obtain ⟨ad, hA, hblk, hcell⟩ := HA.out.at_ hlt
      have hsm : bs.getD k 0 < 256 := HA.out.small k
      obtain ⟨y, hy0, hy1, HY⟩ : ∃ y : Int, 0 ≤ y ∧ y ≤ 255 ∧ Hid (((bs.getD k 0 : Nat) : Int) = y) := ⟨_, by omega, by omega, rfl⟩
      rw [HY.out] at hcell
      have hcell' : (w.drewN m).cell? (ad.add k) = some (.int .u8 y) := hcell
      subst hA
      have hlen := HA.out.len
      have HN : Hid (((((Crc.reg (~~~ s) (bs.take (k + 1))).toNat : Nat) : Int)) = (((Crc.byte (Crc.reg (~~~ s) (bs.take k)) (bs.getD k 0)).toNat : Nat) : Int)) := by
        rw [reg_snoc _ _ _ (by omega)]; rfl
      clear hlen
      obtain ⟨Z, HZ⟩ : ∃ Z : Nat, Hid (Z = ((Crc.reg (~~~ s) (bs.take k)).toNat % 256) ^^^ (bs.getD k 0)) := ⟨_, rfl⟩
      have hZl : Z < 256 := by rw [HZ.out]; exact Crc.xor_lt_256 (Nat.mod_lt _ (by omega)) hsm
      obtain ⟨z, hz, hz0, hz1, HZ2⟩ : ∃ z : Int, bits BinOp.xor IntKind.u8 (r % 256) y = z ∧ 0 ≤ z ∧ z ≤ 255 ∧ Hid (z = (Z : Int)) :=
        ⟨_, index_val HR.out HY.out hsm, by omega, by rw [← HZ.out]; omega, by rw [HZ.out]; rfl⟩
      obtain ⟨q, hq, hq0, hq1, HQ⟩ : ∃ q : Int, bits BinOp.and IntKind.u8 z 15 = q ∧ 0 ≤ q ∧ q < 16 ∧ Hid (q = ((Z % 16 : Nat) : Int)) :=
        ⟨_, low_val HZ2.out hZl, by omega, by omega, rfl⟩
      have lo := HT.out.low q.toNat (by omega)
      have hi := HT.out.high (z / 16).toNat (by omega)
      obtain ⟨a, HA1⟩ : ∃ a : Int, Hid (((Crc.lowerT.getD q.toNat 0 : Nat) : Int) = a) := ⟨_, rfl⟩
      obtain ⟨b, HB1⟩ : ∃ b : Int, Hid (((Crc.higherT.getD (z / 16).toNat 0 : Nat) : Int) = b) := ⟨_, rfl⟩
      rw [HA1.out] at lo
      rw [HB1.out] at hi
      have HV : Hid (bits .xor .u32 (bits .xor .u32 (r / 256) a) b = (((Crc.byte (Crc.reg (~~~ s) (bs.take k)) (bs.getD k 0)).toNat : Nat) : Int)) :=
        step_val hsm HR.out (by rw [← HZ.out]; exact HZ2.out) (by rw [← HZ.out]; exact HQ.out) HA1.out HB1.out
      clear hsm
      go_wp2
      clear hz hcell hcell'
      have p0 : 0 ≤ z / 16 := by omega
      have p1 : z / 16 < 16 := by omega
      go_quiet (fail)
      go_wp2
      go_roundw
      case rel =>
        have e := HV.out.trans HN.out.symm
        have hl := (Crc.reg (~~~ s) (bs.take (k + 1))).isLt
        exact ⟨k + 1, m + nq, _, by omega, by go_num, rfl, rfl, by rw [e]; omega, by rw [e]; omega, e⟩
      case measure => simp [intOf]; omega
    · have hkn : k = n := by omega
      have hlen := HA.out.len
      have ht : bs.take k = bs := List.take_of_length_le (by omega)
      rw [ht] at HR
      clear ht hlen hkn
      have HV : Hid (bits .xor .u32 IntKind.u32.max r = ((Crc.more s bs).toNat : Int)) := by
        show bits .xor .u32 IntKind.u32.max r = _
        rw [HR.out]; exact not_val _
      go_wp2
      go_ret
      exact ⟨ret_int HV.out, _, rfl⟩
theorem more_any (s : BitVec 32) (A : Option Addr) (n c : Nat) (bs : List Nat) (w : World) (hn : n ≤ 9223372036854775807) (hT : Tabs w) (hA : Bytes w w.heap.size A n bs) :
    Calls Tryd.prog 35 #[.int .u32 (s.toNat : Int), .slice A n c] w fun e w' => e = .returned (.int .u32 ((Crc.more s bs).toNat : Int)) ∧ ∃ m, w' = w.drewN m :=
  more_int _ s A n c bs w (by omega) (by have := s.isLt; omega) rfl hn hT hA
theorem bv_le (x : BitVec 32) : ((x.toNat : Nat) : Int) ≤ 4294967295 := by have := x.isLt; omega
theorem flat_snoc (ps : List (List Nat)) (k : Nat) (h : k < ps.length) : (ps.take (k + 1)).flatten = (ps.take k).flatten ++ ps.getD k [] := by
  rw [List.take_succ_eq_append_getElem h, List.flatten_append, List.getD_eq_getElem?_getD, List.getElem?_eq_getElem h]
  simp
theorem more_snoc (s : BitVec 32) (ps : List (List Nat)) (k : Nat) (h : k < ps.length) : Crc.more s (ps.take (k + 1)).flatten = Crc.more (Crc.more s (ps.take k).flatten) (ps.getD k []) := by
  rw [flat_snoc _ _ h, Crc.more_append]

set_option maxHeartbeats 1000000 in
theorem of_any (A : Option Addr) (n c : Nat) (ps : List (List Nat)) (w : World) (hn : n ≤ 9223372036854775807) (hT : Tabs w) (hA : Parts w w.heap.size A n ps) :
    Calls Tryd.prog 22 #[.slice A n c] w fun e w' => e = .returned (.int .u32 ((Crc.more 0#32 ps.flatten).toNat : Int)) ∧ ∃ m, w' = w.drewN m := by
  have HT := Lib.hid hT
  have HA := Lib.hid hA
  clear hT hA
  go_enter Tryd.func22, Tryd.ntmps22
  go_wp2
  go_loopw [3, 8] (fun t3 t8 wr => ∃ (k m : Nat) (r : Int), k ≤ n ∧ t8 = .int .i64 k ∧ wr = w.drewN m ∧ t3 = .int .u32 r ∧ 0 ≤ r ∧ r ≤ 4294967295 ∧ Hid (r = (((Crc.more 0#32 (ps.take k).flatten).toNat : Nat) : Int))) (fun _ t8 _ => n - (intOf t8).toNat)
  case atStart => exact ⟨0, 0, 0, Nat.zero_le _, rfl, rfl, rfl, by omega, by omega, by simp only [List.take_zero, List.flatten_nil, Crc.more_nil]; rfl⟩
  case round =>
    obtain ⟨k, m, r, hk, rfl, rfl, rfl, hr0, hr1, HR⟩ := hrel
    by_cases hlt : k < n
    · obtain ⟨ad, A', n', c', hA, hblk, hcell, hn', hB⟩ := HA.out.each k hlt
      have HB := Lib.hid hB
      clear hB
      subst hA
      have hlen := HA.out.len
      have HN : Hid (Crc.more 0#32 (ps.take (k + 1)).flatten = Crc.more (Crc.more 0#32 (ps.take k).flatten) (ps.getD k [])) := more_snoc _ _ _ (by omega)
      clear hlen
      go_wp2_with fail
      refine (more_int r (Crc.more 0#32 (ps.take k).flatten) A' n' c' (ps.getD k []) _ hr0 hr1 HR hn' (HT.out.drewN m) (HB.out.drewN m)).mono ?_
      rintro e w' ⟨rfl, m', hw⟩
      obtain rfl : w' = (w.drewN m).drewN m' := hw
      clear hcell
      go_wp2_with fail
      go_roundw
      case rel =>
        exact ⟨k + 1, m + m', _, by omega, by go_num, by go_simp, rfl, by omega, bv_le _, by rw [HN.out]; rfl⟩
      case measure => simp [intOf]; omega
    · have hlen := HA.out.len
      have ht : ps.take k = ps := List.take_of_length_le (by omega)
      rw [ht] at HR
      clear ht hlen
      go_wp2
      go_ret
      exact ⟨ret_int HR.out, _, rfl⟩
/- the same contracts; of the world behind them only that nothing old has turned -/
theorem of_since (A : Option Addr) (n c : Nat) (ps : List (List Nat)) (w : World) (hn : n ≤ 9223372036854775807) (hT : Tabs w) (hA : Parts w w.heap.size A n ps) :
    Calls Tryd.prog 22 #[.slice A n c] w fun e w' => e = .returned (.int .u32 ((Crc.more 0#32 ps.flatten).toNat : Int)) ∧ Below w.heap.size w w' :=
  (of_any A n c ps w hn hT hA).mono fun e w' ⟨he, m, hw⟩ => ⟨he, hw ▸ below_drewN (Below.refl _ _) m⟩
theorem more_since (x : Int) (s : BitVec 32) (A : Option Addr) (n c : Nat) (bs : List Nat) (w : World) (h0 : 0 ≤ x) (h1 : x ≤ 4294967295) (HX : Hid (x = ((s.toNat : Nat) : Int))) (hn : n ≤ 9223372036854775807) (hT : Tabs w) (hA : Bytes w w.heap.size A n bs) :
    Calls Tryd.prog 35 #[.int .u32 x, .slice A n c] w fun e w' => e = .returned (.int .u32 ((Crc.more s bs).toNat : Int)) ∧ Below w.heap.size w w' :=
  (more_int x s A n c bs w h0 h1 HX hn hT hA).mono fun e w' ⟨he, m, hw⟩ => ⟨he, hw ▸ below_drewN (Below.refl _ _) m⟩
theorem bv_of {x : Int} (h0 : 0 ≤ x) (h1 : x ≤ 4294967295) : ∃ s : BitVec 32, x = ((s.toNat : Nat) : Int) :=
  ⟨BitVec.ofNat 32 x.toNat, by rw [BitVec.toNat_ofNat, Nat.mod_eq_of_lt (show x.toNat < 2 ^ 32 by omega)]; omega⟩
end Go.Proofs.YticjdjffmagdkaaDoor
