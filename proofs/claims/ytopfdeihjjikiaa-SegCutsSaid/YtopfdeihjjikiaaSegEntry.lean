/- The contracts of seg's fixed and laidEntry: numbers, and one entry, as bytes. Conditions: the row is the caller's own; at most 900 bytes ahead. -/
import Derived.Test.YtopfdeihjjikiaaSegOk
import Derived.Test.YtopfdeihjjikiaaPack
set_option linter.unusedVariables false
set_option linter.unusedSimpArgs false
namespace Go.Proofs.Ytopfdeihjjikiaa
open Go.RowKit

/-- What fixed leaves: bytes more in the caller's row, N in all. -/
def Fixed (w0 : World) (N : Nat) (bs : List Nat) (e : Ending) (w' : World) : Prop := ∃ A c, e = .returned (.slice A N c) ∧ Hid (Own w' w0.heap.size A N c bs) ∧ Hid (Below w0.heap.size w0 w')
set_option maxHeartbeats 1000000 in
theorem fixed_any (w0 : World) (A : Option Addr) (n c : Nat) (bs : List Nat) (x y : Int) (v k N : Nat) (w : World) (hN : n + k = N) (hS : Below w0.heap.size w0 w) (hO : Own w w0.heap.size A n c bs) (HX : Hid (x = (v : Int))) (h0 : 0 ≤ x) (h1 : x ≤ 9223372036854775807) (hy : y = (k : Int)) (hk : k ≤ 8) (hn : n ≤ 900) :
    Calls Try.prog 34 #[.slice A n c, .int .i64 x, .int .i64 y] w (Fixed w0 N (bs ++ Pk.fix v k)) := by
  subst hN
  have HS := Lib.hid hS
  have HO := Lib.hid hO
  have y0 : 0 ≤ y := by omega
  have y1 : y ≤ 8 := by omega
  have HK : Hid (y.toNat = k) := by show _ = _; omega
  clear hS hO hy
  go_enter Try.func34, Try.ntmps34
  go_wp2_with fail
  refine (fix_loop none 0 0 [] x y v _ h0 (by omega) HX y0 y1 (by omega) Bytes.none_).mono ?_
  rw [List.nil_append, HK.out]
  rintro e W1 ⟨A1, n1, c1, rfl, ho, hb⟩
  obtain rfl : k = n1 := by rw [← ho.len, Pk.fix_len]
  have S1 := Lib.hid (below_chain HS.out hb)
  obtain ⟨A2, c2, W2, hr, ho2, hb2⟩ := own_append (c' := c1) S1.out (HO.out.since hb) ho.bytes (by omega)
  have R := Lib.hid hr
  have HO2 := Lib.hid ho2
  have HB2 := Lib.hid hb2
  clear hr ho2 hb2 ho hb
  go_wp2_with (at_builtin; refine wpList_append_run rfl (.tmp 7) (.tmp 11) 38 rfl rfl rfl R.out ?_)
  go_ret
  exact ⟨_, _, rfl, HO2, HB2⟩
theorem or_dirty_at : ∀ q : Fin 256, bits .or .i64 ((q.val : Nat) : Int) 32768 = ((q.val + 32768 : Nat) : Int) := by decide +kernel
theorem or_dirty {q : Nat} (h : q ≤ 255) : bits .or .i64 (q : Int) 32768 = ((q + 32768 : Nat) : Int) := or_dirty_at ⟨q, by omega⟩
def natV (n : Sg.E) : Value := .agg #[.int .u64 (n.addr : Int), .int .i64 (n.page : Int), .bool n.dirty, .int .i64 (n.seq : Int)]
theorem natV_eq (n : Sg.E) : entV (ofE n) = natV n := rfl
set_option maxHeartbeats 2000000 in
theorem laidentry_any (n : Sg.E) (w : World) (hn : Sg.OkE n) : Calls Try.prog 36 #[natV n] w (GivesBytes w (Sg.encE n)) := by
  have HE : Hid (Sg.encE n = Pk.fix n.addr 8 ++ (Pk.fix n.seq 5 ++ Pk.fix (Sg.pageN n) 2)) := rfl
  have R0 := Lib.hid (rowE_new w (ofE n))
  have S0 := Lib.hid (since_alloc (Below.refl w.heap.size w) (.cells #[.int .u64 (n.addr : Int), .int .i64 (n.page : Int), .bool n.dirty, .int .i64 (n.seq : Int)] 48))
  obtain ⟨a0, s0, s1, p1⟩ := hn
  have HPN : Hid (Sg.pageN n = n.page + if n.dirty then 32768 else 0) := rfl
  obtain ⟨a, p, d, s⟩ := n
  unfold ofE natV at *
  dsimp only at a0 s0 s1 p1 HE R0 S0 HPN ⊢
  obtain ⟨W0, HW0⟩ : ∃ W0, Hid (W0 = w.alloc (.cells #[.int .u64 (a : Int), .int .i64 (p : Int), .bool d, .int .i64 (s : Int)] 48)) := ⟨_, rfl⟩
  have HOR := Lib.hid (or_dirty p1)
  go_enter Try.func36, Try.ntmps36
  cases d
  all_goals
    go_wp2_with (simp only [HOR.out])
    rw [← HW0.out] at R0 S0 ⊢
    refine (fix_loop none 0 0 [] (a : Int) 8 a _ (by omega) (by omega) rfl (by omega) (by omega) (by omega) Bytes.none_).mono ?_
    rw [List.nil_append]
    rintro e W1 ⟨A1, n1, c1, rfl, ho1, hb1⟩
    obtain rfl : 8 = n1 := by rw [← ho1.len, Pk.fix_len]; rfl
    have O1 := Lib.hid ho1
    have S1 := Lib.hid hb1
    obtain ⟨c10, c11, c12, c13⟩ := (R0.out.since hb1).at_
    dsimp only at c10 c11 c12 c13
    clear ho1 hb1
    go_wp2_with fail
    refine (fixed_any W0 A1 8 c1 _ (s : Int) 5 s 5 13 W1 rfl S1.out O1.out rfl (by omega) (by omega) rfl (by omega) (by omega)).mono ?_
    rintro e W2 ⟨A2, c2, rfl, O2, S2⟩
    clear c10 c11 c12 c13 O1 S1
    go_wp2_with fail
  · refine (fixed_any W0 A2 13 c2 _ (p : Int) 2 p 2 15 W2 rfl S2.out O2.out rfl (by omega) (by omega) rfl (by omega) (by omega)).mono ?_
    rintro e W3 ⟨A3, c3, rfl, O3, S3⟩
    go_wp2_with fail
    go_ret
    refine ⟨_, _, _, rfl, (O3.out.elder S0.out.size).same ?_, below_chain S0.out S3.out⟩
    rw [HE.out, HPN.out]
    simp
  · refine (fixed_any W0 A2 13 c2 _ (((p + 32768 : Nat)) : Int) 2 (p + 32768) 2 15 W2 rfl S2.out O2.out rfl (by omega) (by omega) rfl (by omega) (by omega)).mono ?_
    rintro e W3 ⟨A3, c3, rfl, O3, S3⟩
    go_wp2_with fail
    go_ret
    refine ⟨_, _, _, rfl, (O3.out.elder S0.out.size).same ?_, below_chain S0.out S3.out⟩
    rw [HE.out, HPN.out]
    simp
end Go.Proofs.Ytopfdeihjjikiaa
