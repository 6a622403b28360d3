/- The contracts of seg's first, entryOf: numbers and one entry, read from bytes that begin with them. Conditions: the slice's cells; at most 900 bytes. -/
import Derived.Test.YtopfdeihjjikiaaSegEntry
import Derived.Test.YtopfdeihjjikiaaPackUnfix
set_option linter.unusedVariables false
set_option linter.unusedSimpArgs false
namespace Go.Proofs.Ytopfdeihjjikiaa
open Go.RowKit

/-- What first leaves: the number that stood there, and what is behind it, in the same bytes. -/
def FirstOf (w : World) (B v : Nat) (rest : List Nat) (e : Ending) (w' : World) : Prop := ∃ A n c, e = .returned (.tuple #[.int .u64 (v : Int), .slice A n c]) ∧ n ≤ 900 ∧ Hid (n ≤ c) ∧ Hid (Bytes w B A n rest) ∧ Hid (Below w.heap.size w w')
set_option maxHeartbeats 1000000 in
theorem segfirst_any (A : Option Addr) (n c B v k : Nat) (x : Int) (rest : List Nat) (w : World) (hx : Hid (x = (k : Int))) (hn : n ≤ 900) (hc : n ≤ c) (hk : k ≤ 8) (hv : v < 256 ^ k) (hB : B ≤ w.heap.size) (hA : Bytes w B A n (Pk.fix v k ++ rest)) :
    Calls Try.prog 46 #[.slice A n c, .int .i64 x] w (FirstOf w B v rest) := by
  have hkn : k ≤ n := by rw [← hA.len, List.length_append, Pk.fix_len]; omega
  have htk : (Pk.fix v k ++ rest).take k = Pk.fix v k := by
    have := List.take_left (l₁ := Pk.fix v k) (l₂ := rest)
    rwa [Pk.fix_len] at this
  have hdr : (Pk.fix v k ++ rest).drop k = rest := by
    have := List.drop_left (l₁ := Pk.fix v k) (l₂ := rest)
    rwa [Pk.fix_len] at this
  have hF := (hA.wider hB).first hkn
  rw [htk] at hF
  have hR := hA.rest hkn hc
  rw [hdr] at hR
  have hs1 : ∀ W : World, (Instr.slice 38 (.slice A n c) none (some (.int .i64 x)) none).run Try.prog W = .ok (.slice A k c) W := fun W => by rw [hx.out]; exact slice_to A n c k hkn hc W
  have hs2 : ∀ W : World, (Instr.slice 38 (.slice A n c) (some (.int .i64 x)) none none).run Try.prog W = .ok (.slice (if c = k then A else A.map (·.add (k * 1))) (n - k) (c - k)) W := fun W => by rw [hx.out]; exact slice_from A n c k hkn W
  obtain ⟨A5, HA5⟩ : ∃ A5 : Option Addr, Hid (A5 = if c = k then A else A.map (·.add (k * 1))) := ⟨_, rfl⟩
  rw [← HA5.out] at hs2 hR
  have hU := unfix_any A k c x (Pk.fix v k) w (by omega) (by omega) hF
  rw [hx.out, unfixO_yes hk (Nat.le_refl k), List.take_of_length_le (by rw [Pk.fix_len]; exact Nat.le_refl _), Pk.unfix_fix, Nat.mod_eq_of_lt hv, ← hx.out] at hU
  have HU := Lib.hid hU
  have HR := Lib.hid hR
  have HC : Hid (n - k ≤ c - k) := by show _ ≤ _; omega
  obtain ⟨n5, HN5⟩ : ∃ n5, Hid (n5 = n - k) := ⟨_, rfl⟩
  obtain ⟨c5, HC5⟩ : ∃ c5, Hid (c5 = c - k) := ⟨_, rfl⟩
  rw [← HN5.out, ← HC5.out] at hs2 HC
  rw [← HN5.out] at HR
  have hn5 : n5 ≤ 900 := by rw [HN5.out]; omega
  clear hA hF hR hU htk hdr hkn
  go_enter Try.func46, Try.ntmps46
  go_wp2_with fail
  refine HU.out.mono ?_
  rintro e W1 ⟨y, A1, n1, c1, rfl, HY, hy0, hy1, hn1, ho, hb⟩
  go_wp2_with fail
  go_quiet (fail)
  go_wp2_with fail
  go_ret2
  rw [HY.out]
  exact ⟨A5, n5, c5, rfl, hn5, HC, HR, below_drewN hb.out _⟩
theorem dirty_at : ∀ q : Fin 256, bits .andNot .u64 ((q.val : Nat) : Int) 32768 = ((q.val : Nat) : Int) ∧ bits .andNot .u64 ((q.val + 32768 : Nat) : Int) 32768 = ((q.val : Nat) : Int) := by decide +kernel
theorem page_back {e : Sg.E} (h : Sg.OkE e) : bits .andNot .u64 ((Sg.pageN e : Nat) : Int) 32768 = ((e.page : Nat) : Int) := by
  have hp := h.page
  obtain ⟨h1, h2⟩ := dirty_at ⟨e.page, by omega⟩
  unfold Sg.pageN
  cases e.dirty
  · exact h1
  · exact h2
theorem put4_else (w : World) (g : Nat) (a b c d : Value) : w.grownBy ((((w.setCell ⟨g, 0, none⟩ a).setCell ⟨g, 1, none⟩ b).setCell ⟨g, 2, none⟩ c).setCell ⟨g, 3, none⟩ d) (some g) :=
  grownBy_trans (grownBy_trans (grownBy_trans (setCell_else w ⟨g, 0, none⟩ a) (setCell_else _ ⟨g, 1, none⟩ b)) (setCell_else _ ⟨g, 2, none⟩ c)) (setCell_else _ ⟨g, 3, none⟩ d)
theorem RowE.put {w : World} {g : Nat} {e : E} (h : RowE w g e) (u : E) : RowE ((((w.setCell ⟨g, 0, none⟩ (.int .u64 u.addr)).setCell ⟨g, 1, none⟩ (.int .i64 u.page)).setCell ⟨g, 2, none⟩ (.bool u.dirty)).setCell ⟨g, 3, none⟩ (.int .i64 u.seq)) g u := ⟨by simp [World.setCell, Array.getElem?_modify, h.row]⟩
/-- What entryOf leaves. -/
def EntryOf (w : World) (B : Nat) (v : Sg.E) (rest : List Nat) (e : Ending) (w' : World) : Prop := ∃ A n c, e = .returned (.tuple #[natV v, .slice A n c]) ∧ n ≤ 900 ∧ Hid (n ≤ c) ∧ Hid (Bytes w B A n rest) ∧ Hid (Below w.heap.size w w')
set_option maxHeartbeats 4000000 in
set_option maxRecDepth 20000 in
theorem entryof_any (A : Option Addr) (n c B : Nat) (v : Sg.E) (rest : List Nat) (w : World) (hv : Sg.OkE v) (hn : n ≤ 900) (hc : n ≤ c) (hB : B ≤ w.heap.size) (hA : Bytes w B A n (Sg.encE v ++ rest)) :
    Calls Try.prog 47 #[.slice A n c] w (EntryOf w B v rest) := by
  have HPB := Lib.hid (page_back hv)
  have hpn := Sg.pageN_lt hv
  have HPN : Hid (Sg.pageN v = v.page + if v.dirty then 32768 else 0) := rfl
  obtain ⟨a0, s0, s1, p1⟩ := hv
  have hE : Sg.encE v ++ rest = Pk.fix v.addr 8 ++ (Pk.fix v.seq 5 ++ (Pk.fix (Sg.pageN v) 2 ++ rest)) := by unfold Sg.encE; simp only [List.append_assoc]
  rw [hE] at hA
  have HA := Lib.hid hA
  obtain ⟨a, p, d, s⟩ := v
  obtain ⟨pn, HP⟩ : ∃ pn, Hid (Sg.pageN ⟨a, p, d, s⟩ = pn) := ⟨_, rfl⟩
  rw [HP.out] at HA HPB HPN hpn
  dsimp only at HA HPB HPN a0 s0 s1 p1
  have S0 := Lib.hid (since_alloc (Below.refl w.heap.size w) (.cells #[.int .u64 0, .int .i64 0, .bool false, .int .i64 0] 48))
  have R0 : Hid (RowE (w.alloc (.cells #[.int .u64 0, .int .i64 0, .bool false, .int .i64 0] 48)) w.heap.size E.zero) := rowE_new w E.zero
  obtain ⟨W0, HW0⟩ : ∃ W0 : World, Hid (W0 = w.alloc (.cells #[.int .u64 0, .int .i64 0, .bool false, .int .i64 0] 48)) := ⟨_, rfl⟩
  clear hA hE
  go_enter Try.func47, Try.ntmps47
  go_wp2_with fail
  rw [← HW0.out] at S0 R0 ⊢
  refine (segfirst_any A n c B a 8 8 _ _ rfl hn hc (by omega) (by rw [show (256 : Nat) ^ 8 = 18446744073709551616 by decide]; exact a0) (Nat.le_trans hB S0.out.size) (HA.out.below (S0.out.mono hB))).mono ?_
  rintro e W1 ⟨A1, n1, c1, rfl, hn1, HC1, HB1, hb1⟩
  have S1 := Lib.hid (S0.out.trans (hb1.out.mono S0.out.size))
  have R1 := Lib.hid (R0.out.since hb1.out)
  have HA1 := Lib.hid (HB1.out.back (S0.out.mono hB))
  clear HB1 hb1
  go_wp2_with fail
  refine (segfirst_any A1 n1 c1 B s 5 5 _ _ rfl hn1 HC1.out (by omega) (by rw [show (256 : Nat) ^ 5 = 1099511627776 by decide]; omega) (Nat.le_trans hB S1.out.size) (HA1.out.below (S1.out.mono hB))).mono ?_
  rintro e W2 ⟨A2, n2, c2, rfl, hn2, HC2, HB2, hb2⟩
  have S2 := Lib.hid (S1.out.trans (hb2.out.mono S1.out.size))
  have R2 := Lib.hid (R1.out.since hb2.out)
  have HA2 := Lib.hid (HB2.out.back (S1.out.mono hB))
  clear HB2 hb2
  go_wp2_with fail
  refine (segfirst_any A2 n2 c2 B pn 2 2 _ _ rfl hn2 HC2.out (by omega) (by rw [show (256 : Nat) ^ 2 = 65536 by decide]; exact hpn) (Nat.le_trans hB S2.out.size) (HA2.out.below (S2.out.mono hB))).mono ?_
  rintro e W3 ⟨A3, n3, c3, rfl, hn3, HC3, HB3, hb3⟩
  have S3 := Lib.hid (S2.out.trans (hb3.out.mono S2.out.size))
  have R3 := Lib.hid (R2.out.since hb3.out)
  have HA3 := Lib.hid (HB3.out.back (S2.out.mono hB))
  obtain ⟨d0, d1, d2, d3⟩ := R3.out.at_
  have f0 := R3.out.free 0
  have f1 := R3.out.free 1
  have f2 := R3.out.free 2
  have f3 := R3.out.free 3
  unfold E.zero at d0 d1 d2 d3
  dsimp only at d0 d1 d2 d3
  have S9 := Lib.hid (S3.out.grown (put4_else W3 w.heap.size (.int .u64 (a : Int)) (.int .i64 (p : Int)) (.bool d) (.int .i64 (s : Int))) S3.out.size (fun q hq => by rw [← Option.some.inj hq]; exact Nat.le_refl _))
  have R9 := Lib.hid (R3.out.put ⟨(a : Int), (p : Int), d, (s : Int)⟩)
  dsimp only at R9
  clear HB3 hb3
  have hdd : decide ((32768 : Int) ≤ (pn : Int)) = d := by
    rw [HPN.out]
    cases d
    · exact decide_eq_false (by simp; omega)
    · exact decide_eq_true (by simp; omega)
  cases d
  · have hdd' := hdd
    simp only [decide_eq_true_eq, decide_eq_false_iff_not] at hdd'
    go_wp2_with (simp only [HPB.out])
    obtain ⟨W9, HW9⟩ : ∃ W9, Hid (W9 = ((((W3.setCell ⟨w.heap.size, 0, none⟩ (.int .u64 (a : Int))).setCell ⟨w.heap.size, 1, none⟩ (.int .i64 (p : Int))).setCell ⟨w.heap.size, 2, none⟩ (.bool false)).setCell ⟨w.heap.size, 3, none⟩ (.int .i64 (s : Int)))) := ⟨_, rfl⟩
    rw [← HW9.out] at S9 R9 ⊢
    obtain ⟨r0, r1, r2, r3⟩ := R9.out.at_
    dsimp only at r0 r1 r2 r3
    exact bodyPost_ret (v := .tuple #[natV ⟨a, p, false, s⟩, .slice A3 n3 c3]) (by simp [results, Try.results47, go_sem, r0, r1, r2, r3, natV]) rfl ⟨_, _, _, rfl, hn3, HC3, HA3, S9⟩
  · have hdd' := hdd
    simp only [decide_eq_true_eq, decide_eq_false_iff_not] at hdd'
    go_wp2_with (simp only [HPB.out])
    obtain ⟨W9, HW9⟩ : ∃ W9, Hid (W9 = ((((W3.setCell ⟨w.heap.size, 0, none⟩ (.int .u64 (a : Int))).setCell ⟨w.heap.size, 1, none⟩ (.int .i64 (p : Int))).setCell ⟨w.heap.size, 2, none⟩ (.bool true)).setCell ⟨w.heap.size, 3, none⟩ (.int .i64 (s : Int)))) := ⟨_, rfl⟩
    rw [← HW9.out] at S9 R9 ⊢
    obtain ⟨r0, r1, r2, r3⟩ := R9.out.at_
    dsimp only at r0 r1 r2 r3
    exact bodyPost_ret (v := .tuple #[natV ⟨a, p, true, s⟩, .slice A3 n3 c3]) (by simp [results, Try.results47, go_sem, r0, r1, r2, r3, natV]) rfl ⟨_, _, _, rfl, hn3, HC3, HA3, S9⟩
end Go.Proofs.Ytopfdeihjjikiaa
