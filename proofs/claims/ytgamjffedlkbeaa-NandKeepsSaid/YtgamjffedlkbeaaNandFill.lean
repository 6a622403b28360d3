/- The chip's fill (all bytes of a block are one), and where a page lies. Conditions: the block's cells; at most 8000 bytes. -/
import Derived.Test.YtgamjffedlkbeaaNandLeaf
import Derived.Test.YtgamjffedlkbeaaNandIn
import Derived.Test.YtgamjffedlkbeaaOwnSet
import Derived.BigQuiet
import Derived.Deep.QuietTactic
set_option linter.unusedVariables false
set_option linter.unusedSimpArgs false
namespace Go.Proofs.Ytgamjffedlkbeaa
open Go.RowKit

theorem fill_next (x : Nat) (us : List Nat) (i : Nat) (hi : i < us.length) : (List.replicate i x ++ us.drop i).set i x = List.replicate (i + 1) x ++ us.drop (i + 1) := by
  rw [List.set_append_right _ _ (by simp), List.length_replicate, Nat.sub_self, List.drop_eq_getElem_cons hi, List.set_cons_zero, List.replicate_succ']
  simp
set_option maxHeartbeats 4000000 in
theorem cfill_any (p : Addr) (r n c x base : Nat) (us : List Nat) (w : World) (hx : x < 256) (hc : w.cell? p = some (.slice (some ⟨r, 0, none⟩) n c)) (ho : Own w base (some ⟨r, 0, none⟩) n c us) (hp : r ≠ p.block) (hn : n ≤ 8000) :
    Calls Try.prog 29 #[.pointer (some p), .int .u8 (x : Int)] w (fun e w' => e = .returned (.tuple #[]) ∧ Own w' base (some ⟨r, 0, none⟩) n c (List.replicate n x) ∧ Turn (fun b => b = r) w w') := by
  have HUL : Hid (us.length = n) := ho.len
  have HO := Lib.hid ho
  have HC := Lib.hid hc
  obtain ⟨X, HX⟩ : ∃ X : Int, Hid (X = (x : Int)) := ⟨_, rfl⟩
  rw [← HX.out]
  clear ho
  go_enter Try.func29, Try.ntmps29
  go_wp2_with fail
  clear hc
  go_loopw [10] (fun t10 wr => ∃ i : Nat, t10 = .int .i64 i ∧ i ≤ n ∧ Hid (Own wr base (some ⟨r, 0, none⟩) n c (List.replicate i x ++ us.drop i)) ∧ Hid (Turn (fun b => b = r) w wr)) (fun t10 _ => n - (intOf t10).toNat)
  case atStart => exact ⟨0, rfl, Nat.zero_le _, HO, Turn.refl _ _⟩
  clear HO
  case round =>
    obtain ⟨i, rfl, hi, HR, HT⟩ := hrel
    have i0 : (0 : Int) ≤ (i : Int) := by omega
    by_cases hlt : i < n
    · have i1 : (i : Int) < (n : Int) := by omega
      have hc : wr.cell? p = some (.slice (some ⟨r, 0, none⟩) n c) := (same_cell (HT.out.block p.block (World.block_lt_of_cell? w p HC.out) (Ne.symm hp)) rfl).trans HC.out
      have hcell := own_cell HR.out hlt
      have hfree := own_free HR.out i
      obtain ⟨h1, h2⟩ := own_set HR.out i X x HX.out hx
      rw [fill_next x us i (by rw [HUL.out]; exact hlt)] at h1
      have H1 := Lib.hid h1
      have H2 : Hid (Turn (fun b => b = r) w (wr.setCell ⟨r, i, none⟩ (.int .u8 X))) := HT.out.trans (Turn.of_grown (fp := fun b => b = r) h2 fun b hb => (Option.some.inj hb).symm) fun b hb => Or.inl hb
      obtain ⟨u, hu⟩ : ∃ u, wr.cell? ⟨r, i, none⟩ = some u := ⟨_, hcell⟩
      clear h1 h2
      go_wp2_with fail
      go_roundw
      case rel => exact ⟨i + 1, by go_num, by omega, H1, H2⟩
      case measure => simp [intOf]; omega
    · obtain rfl : i = n := by omega
      have HF : Hid (Own wr base (some ⟨r, 0, none⟩) i c (List.replicate i x)) := by
        have := HR.out
        rwa [List.drop_eq_nil_of_le (by rw [HUL.out]; exact Nat.le_refl _), List.append_nil] at this
      go_wp2_with fail
      go_end0
      exact ⟨rfl, HF.out, HT.out⟩
section
variable {w : World} {base g : Nat} {fp : Nat → Prop} {s : Chip} {L : CL}
theorem Rep.long (h : Rep w base fp g s L) {k : Nat} (hk : k < s.nb) : ∀ i, i < (s.nth k).pg.length → ((s.nth k).pg.getD i []).length = s.ns + 28 := fun i hi => h.wf.bytes k i hk (by have := h.wf.pages k hk; unfold Chip.nth at hi; omega)
/-- A block's bytes, its pages one behind the other. -/
theorem Rep.rawrow (h : Rep w base fp g s L) {k : Nat} (hk : k < s.nb) : ∃ r c, (L.at_ k).a = some ⟨r, 0, none⟩ ∧ (L.at_ k).n = s.np * (s.ns + 28) ∧ (L.at_ k).c = c ∧ s.np * (s.ns + 28) ≤ c ∧ r < w.heap.size ∧ fp r ∧ Own w base (some ⟨r, 0, none⟩) (s.np * (s.ns + 28)) c (s.nth k).pg.flatten := by
  have h1 := (h.each k hk).raw
  have hl := h1.len
  have hp : (s.nth k).pg.length = s.np := h.wf.pages k hk
  rw [Chip.flat_len (h.long hk), hp] at hl
  have hpos : 0 < s.np * (s.ns + 28) := Nat.mul_pos h.wf.np1 (by omega)
  rw [← hl] at h1
  obtain ⟨r, e, hr1, hr2⟩ := own_at h1 hpos
  have hf := h.fr k hk r (by rw [e]; simp [Go.Proofs.Ytgamjffedlkbeaa.blk])
  rw [e] at h1
  exact ⟨r, _, e, hl.symm, rfl, h1.cap, hr2, hf, h1⟩
theorem page_lt {k n z : Nat} (hk : k < n) : k * z + z ≤ n * z := by
  have h1 : (k + 1) * z ≤ n * z := Nat.mul_le_mul_right z hk
  rwa [Nat.add_mul, Nat.one_mul] at h1
theorem run_mid (A : Option Addr) (n c lo hi : Nat) (h1 : lo ≤ hi) (h2 : hi ≤ c) (W : World) :
    (Instr.slice 28 (.slice A n c) (some (.int .i64 (lo : Int))) (some (.int .i64 (hi : Int))) none).run Try.prog W = .ok (.slice (if c = lo then A else A.map (·.add lo)) (hi - lo) (c - lo)) W := by
  obtain ⟨i0, hi', hz0, hz1, hz2⟩ := info_parts info5
  have h := run_slice_lh (P := Try.prog) (w := W) 28 A n c under24 .i64 .i64 (lo : Int) (hi : Int) (by omega) (by omega) (by omega)
  rw [h, elem24]
  simp [sizeOf, typeInfo, hi', hz1, sliced]
/-- Where a page lies in its block. -/
def pageAt (r q z : Nat) : Option Addr := some ⟨r, q * z, none⟩
set_option maxHeartbeats 4000000 in
theorem page_any (h : Rep w base fp g s L) {k q r c : Nat} (hk : k < s.nb) (hq : q < s.np) (hr : (L.at_ k).a = some ⟨r, 0, none⟩) (hc : (L.at_ k).c = c) :
    Calls Try.prog 38 #[.pointer (some ⟨g, 0, none⟩), .int .i64 (k : Int), .int .i64 (q : Int)] w fun e w' => e = .returned (.slice (some ⟨r, q * (s.ns + 28), none⟩) (s.ns + 28) (c - q * (s.ns + 28))) ∧ ∃ n, w' = w.drewN n := by
  obtain ⟨r', c', e1, e2, e3, e4, e5, e6, e7⟩ := h.rawrow hk
  rw [hr] at e1
  obtain rfl : r = r' := by injection e1 with e1; injection e1
  obtain rfl : c = c' := hc.symm.trans e3
  have hns := h.wf.ns2
  have hnp := h.wf.np2
  have hnb := h.wf.nb2
  obtain ⟨z, HZ⟩ : ∃ z : Nat, Hid (s.ns + 28 = z) := ⟨_, rfl⟩
  have hz : z ≤ 284 := by rw [← HZ.out]; omega
  have hzz : ((s.ns : Int) + 28) = (z : Int) := by rw [← HZ.out]; omega
  have C1 := Lib.hid fun (w2 : World) (h2 : Rep w2 base fp g s L) => width_any h2
  rw [hzz] at C1
  have CW := Lib.hid (C1.out w h)
  have CD := Lib.hid fun n => (C1.out (w.drewN n) (h.since (below_drewN (Below.refl _ _) n))).mono fun e w' k => (⟨k.1, k.2.symm⟩ : e = .returned (.int .i64 (z : Int)) ∧ w' = w.drewN n)
  rw [HZ.out] at e2 e4 e7 ⊢
  have hqz := page_lt (z := z) hq
  obtain ⟨t, HT⟩ : ∃ t : Nat, Hid (q * z = t) := ⟨_, rfl⟩
  have htt : (q : Int) * (z : Int) = (t : Int) := by rw [← HT.out]; simp
  obtain ⟨N, HN⟩ : ∃ N : Nat, Hid (s.np * z = N) := ⟨_, rfl⟩
  rw [HT.out, HN.out] at hqz
  rw [HN.out] at e2 e4 e7
  rw [HT.out]
  have ht2 : t ≤ 2300 := by
    have : q * z ≤ 8 * 284 := Nat.mul_le_mul (by omega) hz
    rw [HT.out] at this; omega
  have hrun := fun W => run_mid (some ⟨r, 0, none⟩) N c t (t + z) (by omega) (by omega) W
  have e9 : (if c = t then (some ⟨r, 0, none⟩ : Option Addr) else (some ⟨r, 0, none⟩ : Option Addr).map (·.add t)) = some ⟨r, t, none⟩ := by
    have hz1 : 0 < z := by rw [← HZ.out]; omega
    rw [if_neg (by omega)]
    show some ((⟨r, 0, none⟩ : Addr).add t) = _
    unfold Addr.add
    split
    · next h0 => rw [h0]
    · simp
  rw [e9, show t + z - t = z by omega, show ((t + z : Nat) : Int) = (t : Int) + (z : Int) by omega] at hrun
  obtain ⟨d0, d1, d2, d3, d4⟩ := h.block hk
  obtain ⟨c0, c1, c2, c3, c4, c5, c6, c7, c8⟩ := h.cells
  rw [hr, hc, e2] at d0
  obtain ⟨n, HNB⟩ : ∃ n : Nat, Hid (s.nb = n) := ⟨_, rfl⟩
  rw [HNB.out] at c4 hk
  have i0 : (0 : Int) ≤ (k : Int) := by omega
  have i1 : (k : Int) < (n : Int) := by omega
  clear h hr hc e1 e2 e3 e5 e6 e7 e9 hzz C1 d1 d2 d3 d4 c0 c1 c2 c3 c5 c6 c7 c8 hns hnp hnb
  go_enter Try.func38, Try.ntmps38
  go_wp2_with fail
  refine CW.out.mono ?_
  rintro e w' ⟨rfl, rfl⟩
  go_wp2_with fail
  go_quiet (exact Calls.quiet_of_same (CD.out _))
  go_wp2_with fail
  go_ret
  exact ⟨rfl, nq, rfl⟩
end
end Go.Proofs.Ytgamjffedlkbeaa
