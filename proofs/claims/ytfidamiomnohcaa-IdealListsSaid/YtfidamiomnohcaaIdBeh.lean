/- The landed ideal's made, isChange, behindBlock, behindRefusal. Conditions: orders and replies whose data lie there; lists of at most 400. The landed ideal's behindBlock and behindRefusal. Conditions: orders and replies whose data lie there; lists of at most 400. The landed ideal's behind. Conditions: an ideal that stands so, an order and a reply whose data lie there; lists of at most 400. -/
import Derived.Test.YtfidamiomnohcaaIdPuts
set_option linter.unusedVariables false
set_option linter.unusedSimpArgs false
set_option maxRecDepth 20000
namespace Go.Proofs.Ytfidamiomnohcaa
section
open Go.RowKit

theorem ok_blk {k : Int} (h1 : 1 ≤ k) (h2 : k ≤ 2) (d : List UInt8) : ThOk ⟨k, d⟩ := ⟨by show 0 ≤ k; omega, h2, fun e => by have : k = 0 := e; omega⟩
def thB (bs : List Nat) : List UInt8 := bs.map UInt8.ofNat
theorem strOf_thB (bs : List Nat) : strOf bs = strB (thB bs) := rfl
/-- An order as a value. -/
structure Om where
  k : Int
  a : Int
  A : Option Addr
  n : Nat
  c : Nat
  m : Int
def ordV (x : Om) : Value := .agg #[.int .i64 x.k, .int .u64 x.a, .slice x.A x.n x.c, .int .i64 x.m]
/-- A reply as a value. -/
structure Rm where
  k : Int
  e : Int
  A : Option Addr
  n : Nat
  c : Nat
  d : Bool
  Z : Option Addr
  zn : Nat
  zc : Nat
def repV (x : Rm) : Value := .agg #[.int .i64 x.k, .int .i64 x.e, .slice x.A x.n x.c, .bool x.d, .slice x.Z x.zn x.zc]
def chgK (k : Int) : Bool := k == 1 || k == 2 || k == 4 || k == 5
def madeT (k : Int) (bs : List Nat) (was : List Th) : List Th :=
  if k == 1 then withT [] [⟨2, thB bs⟩] else if k == 2 then withT [] [⟨1, thB bs⟩] else if k == 4 then [Th.zero] else if k == 5 then cleanedT was else was
/-- What made leaves. -/
def MadeOut (w : World) (k : Int) (bs : List Nat) (was : List Th) (Z : Option Addr) (zn zc : Nat) (e : Ending) (w' : World) : Prop :=
  ∃ A n c, e = .returned (.slice A n c) ∧ Hid (Below w.heap.size w w') ∧ Hid (thK.Lie w' w'.heap.size A n (madeT k bs was)) ∧ Hid (A = none → c = 0) ∧
    Hid ((chgK k = true ∧ thK.Row w' w.heap.size A n c (madeT k bs was)) ∨ (chgK k = false ∧ A = Z ∧ n = zn ∧ c = zc ∧ madeT k bs was = was))
theorem row_nil_c {w : World} {base n c : Nat} {A : Option Addr} {l : List Th} (h : thK.Row w base A n c l) : A = none → c = 0 := fun e => by
  subst e
  rcases h.row.2 with ⟨hv, _⟩ | ⟨g, cap, cur, hv, _⟩
  · injection hv
  · injection hv with e; cases e
theorem chg_any (x : Om) (w : World) : Calls Try.prog 54 #[ordV x] w fun e w' => e = .returned (.bool (chgK x.k)) ∧ Below w.heap.size w w' := by
  rcases x with ⟨k, a, A, n, c, m⟩
  have S0 : Hid (Below w.heap.size w (w.alloc (.cells #[.int .i64 k, .int .u64 a, .slice A n c, .int .i64 m] 32))) := (Below.refl _ _).alloc (Nat.le_refl _) _
  obtain ⟨q, HQ⟩ : ∃ q, Hid (chgK k = q) := ⟨_, rfl⟩
  show Calls _ _ #[.agg #[.int .i64 k, .int .u64 a, .slice A n c, .int .i64 m]] _ fun e w' => e = .returned (.bool (chgK k)) ∧ _
  rw [HQ.out]
  rcases h1 : (k == 1) with _ | _
  · rcases h2 : (k == 2) with _ | _
    · rcases h4 : (k == 4) with _ | _
      · rcases h5 : (k == 5) with _ | _
        · obtain rfl : q = false := by rw [← HQ.out]; unfold chgK; simp [h1, h2, h4, h5]
          go_enter Try.func54, Try.ntmps54
          go_wp2_with fail
          go_ret
          exact ⟨rfl, S0.out⟩
        · obtain rfl : q = true := by rw [← HQ.out]; unfold chgK; simp [h1, h2, h4, h5]
          go_enter Try.func54, Try.ntmps54
          go_wp2_with fail
          go_ret
          exact ⟨rfl, S0.out⟩
      · obtain rfl : q = true := by rw [← HQ.out]; unfold chgK; simp [h1, h2, h4]
        go_enter Try.func54, Try.ntmps54
        go_wp2_with fail
        go_ret
        exact ⟨rfl, S0.out⟩
    · obtain rfl : q = true := by rw [← HQ.out]; unfold chgK; simp [h1, h2]
      go_enter Try.func54, Try.ntmps54
      go_wp2_with fail
      go_ret
      exact ⟨rfl, S0.out⟩
  · obtain rfl : q = true := by rw [← HQ.out]; unfold chgK; simp [h1]
    go_enter Try.func54, Try.ntmps54
    go_wp2_with fail
    go_ret
    exact ⟨rfl, S0.out⟩
theorem lie_one (W : World) (t : Th) (ht : ThOk t) (cs : Array Value) (hcs : cs = (thCells t).toArray) : thK.Lie (W.alloc (.cells cs 85)) (W.alloc (.cells cs 85)).heap.size (some ⟨W.heap.size, 0, none⟩) 1 [t] := by
  subst hcs; exact (lie_lit_th W t ht).lie
set_option maxHeartbeats 4000000 in
theorem made_any (x : Om) (Z : Option Addr) (zn zc : Nat) (was : List Th) (bs : List Nat) (w : World) (hb : Bytes w w.heap.size x.A x.n bs) (hz : thK.Lie w w.heap.size Z zn was) (hzc : Z = none → zc = 0) (hn : zn ≤ 1300) :
    Calls Try.prog 55 #[ordV x, .slice Z zn zc] w (MadeOut w x.k bs was Z zn zc) := by
  rcases x with ⟨k, a, A, n, c, m⟩
  obtain ⟨W1, HW1⟩ : ∃ W, Hid (w.alloc (.cells #[.int .i64 k, .int .u64 a, .slice A n c, .int .i64 m] 32) = W) := ⟨_, rfl⟩
  have S1 : Hid (Below w.heap.size w W1) := by show Below _ _ _; rw [← HW1.out]; exact (Below.refl _ _).alloc (Nat.le_refl _) _
  obtain ⟨g, HG⟩ : ∃ g, Hid (w.heap.size = g) := ⟨_, rfl⟩
  have c0 : W1.cell? ⟨g, 0, none⟩ = some (.int .i64 k) := by rw [← HW1.out, ← HG.out]; exact cell_first rfl
  have c2 : W1.cell? ⟨g, 2, none⟩ = some (.slice A n c) := by rw [← HW1.out, ← HG.out]; exact cell_first rfl
  have HCV := Lib.hid (conv_bytes (hb.since S1.out) c)
  rw [strOf_thB] at HCV
  have HZ := Lib.hid (hz.since S1.out)
  have HZC := Lib.hid hzc
  have HZ0 := Lib.hid hz
  have HC := Lib.hid (cleaned_any Z zn zc was W1 (by omega) HZ.out hzc)
  clear hb hz hzc
  show Calls _ _ #[.agg #[.int .i64 k, .int .u64 a, .slice A n c, .int .i64 m], _] _ (MadeOut w k bs was Z zn zc)
  obtain ⟨sb, HSB⟩ : ∃ s, Hid (strB (thB bs) = s) := ⟨_, rfl⟩
  rw [HSB.out] at HCV
  rcases h1 : (k == 1) with _ | _
  · rcases h2 : (k == 2) with _ | _
    · rcases h4 : (k == 4) with _ | _
      · rcases h5 : (k == 5) with _ | _
        · have HE : Hid (madeT k bs was = was) := by show _ = _; unfold madeT; simp [h1, h2, h4, h5]
          have HH : Hid (chgK k = false) := by show _ = _; unfold chgK; simp [h1, h2, h4, h5]
          have HL : Hid (thK.Lie W1 W1.heap.size Z zn (madeT k bs was)) := by show thK.Lie _ _ _ _ _; rw [HE.out]; exact HZ.out
          go_enter Try.func55, Try.ntmps55
          go_wp2_with fail
          rw [HW1.out, HG.out]
          go_wp2_with fail
          go_ret
          exact ⟨_, _, _, rfl, S1, HL, HZC, Or.inr ⟨HH.out, rfl, rfl, rfl, HE.out⟩⟩
        · have HE : Hid (madeT k bs was = cleanedT was) := by show _ = _; unfold madeT; simp [h1, h2, h4, h5]
          have HH : Hid (chgK k = true) := by show _ = _; unfold chgK; simp [h1, h2, h4, h5]
          go_enter Try.func55, Try.ntmps55
          go_wp2_with fail
          rw [HW1.out, HG.out]
          go_wp2_with fail
          refine HC.out.mono ?_
          rintro e w3 ⟨A3, n3, c3, rfl, hR3, hB3⟩
          have HB3 : Hid (Below w.heap.size w w3) := below_chain S1.out hB3.out
          have HR3 : Hid (thK.Row w3 w.heap.size A3 n3 c3 (madeT k bs was)) := by show thK.Row _ _ _ _ _ _; rw [HE.out]; exact hR3.out.elder S1.out.size
          clear hR3 hB3
          go_wp2_with fail
          go_ret
          exact ⟨_, _, _, rfl, HB3, HR3.out.lie, row_nil_c HR3.out, Or.inl ⟨HH.out, HR3.out⟩⟩
      · have HE : Hid (madeT k bs was = [Th.zero]) := by show _ = _; unfold madeT; simp [h1, h2, h4]
        have HH : Hid (chgK k = true) := by show _ = _; unfold chgK; simp [h1, h2, h4]
        have hs1 : W1.heap.size = g + 1 := by rw [← HW1.out, ← HG.out]; simp
        have HR3 : Hid (thK.Row (W1.alloc (.cells #[.int .i64 0, .string ByteArray.empty] 85)) w.heap.size (some ⟨g + 1, 0, none⟩) 1 1 (madeT k bs was)) := by
          show thK.Row _ _ _ _ _ _
          rw [HE.out, ← hs1]
          exact (lie_lit_th W1 Th.zero ok_zero).elder S1.out.size
        have HB3 : Hid (Below w.heap.size w (W1.alloc (.cells #[.int .i64 0, .string ByteArray.empty] 85))) := since_alloc S1.out _
        go_enter Try.func55, Try.ntmps55
        go_wp2_with fail
        rw [HW1.out, HG.out]
        go_wp2_with fail
        go_ret
        exact ⟨_, _, _, rfl, HB3, HR3.out.lie, row_nil_c HR3.out, Or.inl ⟨HH.out, HR3.out⟩⟩
    · have HE : Hid (madeT k bs was = withT [] [⟨1, thB bs⟩]) := by show _ = _; unfold madeT; simp [h1, h2]
      have HH : Hid (chgK k = true) := by show _ = _; unfold chgK; simp [h1, h2]
      obtain ⟨W2, HW2⟩ : ∃ W, Hid (W1.alloc (.cells #[.int .i64 1, .string sb] 85) = W) := ⟨_, rfl⟩
      obtain ⟨g2, HG2⟩ : ∃ g, Hid (W1.heap.size = g) := ⟨_, rfl⟩
      have HOT : Hid (ThOk ⟨1, thB bs⟩) := ok_blk (by decide) (by decide) _
      have HL2 : Hid (thK.Lie W2 W2.heap.size (some ⟨g2, 0, none⟩) 1 [⟨1, thB bs⟩]) := by show thK.Lie _ _ _ _ _; rw [← HW2.out, ← HG2.out]; exact lie_one W1 ⟨1, thB bs⟩ HOT.out _ (by rw [← HSB.out]; rfl)
      have S2 : Hid (Below w.heap.size w W2) := by show Below _ _ _; rw [← HW2.out]; exact since_alloc S1.out _
      have C2 := Lib.hid (with_any none (some ⟨g2, 0, none⟩) 0 0 1 1 [] [⟨1, thB bs⟩] W2 srt_nil (fun t ht => by rw [List.mem_singleton.1 ht]; exact HOT.out) (by omega) Kind.Lie.none_ (fun _ => rfl) HL2.out)
      go_enter Try.func55, Try.ntmps55
      go_wp2_with fail
      rw [HW1.out, HG.out]
      go_wp2_with (simp only [HCV.out])
      rw [HW2.out, HG2.out]
      refine C2.out.mono ?_
      rintro e w3 ⟨A3, n3, c3, rfl, hR3, hB3⟩
      have HB3 : Hid (Below w.heap.size w w3) := below_chain S2.out hB3.out
      have HR3 : Hid (thK.Row w3 w.heap.size A3 n3 c3 (madeT k bs was)) := by show thK.Row _ _ _ _ _ _; rw [HE.out]; exact hR3.out.elder S2.out.size
      clear hR3 hB3 C2
      go_wp2_with fail
      go_ret
      exact ⟨_, _, _, rfl, HB3, HR3.out.lie, row_nil_c HR3.out, Or.inl ⟨HH.out, HR3.out⟩⟩
  · have HE : Hid (madeT k bs was = withT [] [⟨2, thB bs⟩]) := by show _ = _; unfold madeT; simp [h1]
    have HH : Hid (chgK k = true) := by show _ = _; unfold chgK; simp [h1]
    obtain ⟨W2, HW2⟩ : ∃ W, Hid (W1.alloc (.cells #[.int .i64 2, .string sb] 85) = W) := ⟨_, rfl⟩
    obtain ⟨g2, HG2⟩ : ∃ g, Hid (W1.heap.size = g) := ⟨_, rfl⟩
    have HOT : Hid (ThOk ⟨2, thB bs⟩) := ok_blk (by decide) (by decide) _
    have HL2 : Hid (thK.Lie W2 W2.heap.size (some ⟨g2, 0, none⟩) 1 [⟨2, thB bs⟩]) := by show thK.Lie _ _ _ _ _; rw [← HW2.out, ← HG2.out]; exact lie_one W1 ⟨2, thB bs⟩ HOT.out _ (by rw [← HSB.out]; rfl)
    have S2 : Hid (Below w.heap.size w W2) := by show Below _ _ _; rw [← HW2.out]; exact since_alloc S1.out _
    have C2 := Lib.hid (with_any none (some ⟨g2, 0, none⟩) 0 0 1 1 [] [⟨2, thB bs⟩] W2 srt_nil (fun t ht => by rw [List.mem_singleton.1 ht]; exact HOT.out) (by omega) Kind.Lie.none_ (fun _ => rfl) HL2.out)
    go_enter Try.func55, Try.ntmps55
    go_wp2_with fail
    rw [HW1.out, HG.out]
    go_wp2_with (simp only [HCV.out])
    rw [HW2.out, HG2.out]
    refine C2.out.mono ?_
    rintro e w3 ⟨A3, n3, c3, rfl, hR3, hB3⟩
    have HB3 : Hid (Below w.heap.size w w3) := below_chain S2.out hB3.out
    have HR3 : Hid (thK.Row w3 w.heap.size A3 n3 c3 (madeT k bs was)) := by show thK.Row _ _ _ _ _ _; rw [HE.out]; exact hR3.out.elder S2.out.size
    clear hR3 hB3 C2
    go_wp2_with fail
    go_ret
    exact ⟨_, _, _, rfl, HB3, HR3.out.lie, row_nil_c HR3.out, Or.inl ⟨HH.out, HR3.out⟩⟩
end

section
open Go.RowKit

def readT (d : Bool) (bs : List Nat) : Th := ⟨if d then 2 else 1, thB bs⟩
def blockT (was : List Th) (bs : List Nat) (d : Bool) : List Th × Bool := (withT [] [readT d bs], isT was (readT d bs))
def refusalT (k : Int) (bs : List Nat) (was : List Th) (code : Int) : List Th × Bool :=
  if code == 4 then (withT was (madeT k bs was), true)
  else if code == 8 then ([Th.zero], (k == 3 || k == 5) && isNo was)
  else if code == 5 then (was, k == 3 || chgK k)
  else if code == 7 then (was, chgK k)
  else if code == 10 then (was, chgK k)
  else ([], false)
/-- What behind and its parts leave. -/
def BehOut (w : World) (p : List Th × Bool) (Z : Option Addr) (zn zc : Nat) (was : List Th) (e : Ending) (w' : World) : Prop :=
  ∃ A n c, e = .returned (.tuple #[.slice A n c, .bool p.2]) ∧ Hid (Below w.heap.size w w') ∧ Hid (p.2 = true → (thK.Row w' w.heap.size A n c p.1 ∨ (A = Z ∧ n = zn ∧ c = zc ∧ p.1 = was)))
theorem ok_read (d : Bool) (bs : List Nat) : ThOk (readT d bs) := by
  cases d
  · exact ok_blk (by decide) (by decide) _
  · exact ok_blk (by decide) (by decide) _
set_option maxHeartbeats 4000000 in
theorem bblock_any (x : Rm) (Z : Option Addr) (zn zc : Nat) (was : List Th) (bs : List Nat) (w : World) (hs : Srt was) (hb : Bytes w w.heap.size x.A x.n bs) (hz : thK.Lie w w.heap.size Z zn was) (hn : zn ≤ 1300) :
    Calls Try.prog 53 #[.slice Z zn zc, repV x] w (BehOut w (blockT was bs x.d) Z zn zc was) := by
  rcases x with ⟨k, ec, A, n, c, d, A2, n2, c2⟩
  obtain ⟨W1, HW1⟩ : ∃ W, Hid (w.alloc (.cells #[.int .i64 k, .int .i64 ec, .slice A n c, .bool d, .slice A2 n2 c2] 36) = W) := ⟨_, rfl⟩
  have S1 : Hid (Below w.heap.size w W1) := by show Below _ _ _; rw [← HW1.out]; exact (Below.refl _ _).alloc (Nat.le_refl _) _
  obtain ⟨g, HG⟩ : ∃ g, Hid (w.heap.size = g) := ⟨_, rfl⟩
  have c2' : W1.cell? ⟨g, 2, none⟩ = some (.slice A n c) := by rw [← HW1.out, ← HG.out]; exact cell_first rfl
  have c3' : W1.cell? ⟨g, 3, none⟩ = some (.bool d) := by rw [← HW1.out, ← HG.out]; exact cell_first rfl
  have HGL : Hid (g < W1.heap.size) := by show _ < _; rw [← HW1.out, ← HG.out]; simp
  have HCV := Lib.hid (conv_bytes (hb.since S1.out) c)
  rw [strOf_thB] at HCV
  have HZ := Lib.hid (hz.since S1.out)
  have HS := Lib.hid hs
  clear hb hz hs
  show Calls _ _ #[_, .agg #[.int .i64 k, .int .i64 ec, .slice A n c, .bool d, .slice A2 n2 c2]] _ (BehOut w (blockT was bs d) Z zn zc was)
  obtain ⟨q, HQ⟩ : ∃ q, Hid (isT was (readT d bs) = q) := ⟨_, rfl⟩
  obtain ⟨j, HJ⟩ : ∃ j, Hid (aheadT was (readT d bs) = j) := ⟨_, rfl⟩
  obtain ⟨sb, HSB⟩ : ∃ s, Hid (strB (thB bs) = s) := ⟨_, rfl⟩
  rw [HSB.out] at HCV
  have HBE : Hid (BehOut w (blockT was bs d) Z zn zc was = BehOut w (withT [] [readT d bs], q) Z zn zc was) := by show _ = _; unfold blockT; rw [HQ.out]
  rw [HBE.out]
  obtain ⟨g2, HG2⟩ : ∃ g, Hid (W1.heap.size = g) := ⟨_, rfl⟩
  rcases d with _ | _
  · obtain ⟨W2, HW2⟩ : ∃ W, Hid (W1.alloc (.cells #[.int .i64 1, .string sb] 85) = W) := ⟨_, rfl⟩
    have S2 : Hid (Below w.heap.size w W2) := by show Below _ _ _; rw [← HW2.out]; exact since_alloc S1.out _
    have t0 : W2.cell? ⟨g2, 0, none⟩ = some (.int .i64 1) := by rw [← HW2.out, ← HG2.out]; exact cell_first rfl
    have t1 : W2.cell? ⟨g2, 1, none⟩ = some (.string sb) := by rw [← HW2.out, ← HG2.out]; exact cell_first rfl
    have HG2L : Hid (g2 < W2.heap.size) := by show _ < _; rw [← HW2.out, ← HG2.out]; simp
    have HRD : Hid (readT false bs = ⟨1, thB bs⟩) := rfl
    have HZ2 : Hid (thK.Lie W2 W2.heap.size Z zn was) := by show thK.Lie _ _ _ _ _; rw [← HW2.out]; exact HZ.out.since ((Below.refl _ _).alloc (Nat.le_refl _) _)
    have C1 := Lib.hid (tsearch_any Z zn zc was (readT false bs) W2 HS.out (by omega) HZ2.out)
    unfold whereTh at C1
    rw [HJ.out, HQ.out, show thV (readT false bs) = .agg #[.int .i64 1, .string sb] by rw [← HSB.out]; rfl] at C1
    have HOT := Lib.hid (ok_read false bs)
    have HCL : Hid (thCells (readT false bs) = [.int .i64 1, .string sb]) := by show _ = _; rw [← HSB.out]; rfl
    obtain ⟨rd, HRR⟩ : ∃ r, Hid (readT false bs = r) := ⟨_, rfl⟩
    rw [HRR.out] at HOT HCL ⊢
    have c3'' : (W1.alloc (.cells #[.int .i64 1, .string sb] 85)).cell? ⟨g, 3, none⟩ = some (.bool false) := cell_old c3'
    clear HRD HBE HRR
    go_enter Try.func53, Try.ntmps53
    go_wp2_with fail
    rw [HW1.out, HG.out]
    go_wp2_with (simp only [HCV.out])
    rw [HW2.out, HG2.out]
    refine C1.out.mono ?_
    rintro e w3 ⟨rfl, hg⟩
    have S3 : Hid (Below w.heap.size w w3) := below_chain S2.out hg.later
    have u0 := gro_cell (p := ⟨g2, 0, none⟩) hg HG2L.out t0
    have u1 := gro_cell (p := ⟨g2, 1, none⟩) hg HG2L.out t1
    obtain ⟨W4, HW4⟩ : ∃ W, Hid (w3.alloc (.cells #[.int .i64 1, .string sb] 85) = W) := ⟨_, rfl⟩
    obtain ⟨g4, HG4⟩ : ∃ g, Hid (w3.heap.size = g) := ⟨_, rfl⟩
    have S4 : Hid (Below w.heap.size w W4) := by show Below _ _ _; rw [← HW4.out]; exact since_alloc S3.out _
    have HL4 : Hid (thK.Lie W4 W4.heap.size (some ⟨g4, 0, none⟩) 1 [rd]) := by show thK.Lie _ _ _ _ _; rw [← HW4.out, ← HG4.out]; exact lie_one w3 rd HOT.out _ (by rw [HCL.out])
    have C2 := Lib.hid (with_any none (some ⟨g4, 0, none⟩) 0 0 1 1 [] [rd] W4 srt_nil (fun t ht => by rw [List.mem_singleton.1 ht]; exact HOT.out) (by omega) Kind.Lie.none_ (fun _ => rfl) HL4.out)
    clear t0 t1 hg
    go_wp2_with fail
    rw [HW4.out, HG4.out]
    refine C2.out.mono ?_
    rintro e w5 ⟨A5, n5, c5, rfl, hR5, hB5⟩
    have HB5 : Hid (Below w.heap.size w w5) := below_chain S4.out hB5.out
    have HR5 : Hid (thK.Row w5 w.heap.size A5 n5 c5 (withT [] [rd])) := hR5.out.elder S4.out.size
    clear hR5 hB5 C2
    go_wp2_with fail
    go_ret2
    exact ⟨_, _, _, rfl, HB5, fun _ => Or.inl HR5.out⟩
  · obtain ⟨W2, HW2⟩ : ∃ W, Hid (W1.alloc (.cells #[.int .i64 2, .string sb] 85) = W) := ⟨_, rfl⟩
    have S2 : Hid (Below w.heap.size w W2) := by show Below _ _ _; rw [← HW2.out]; exact since_alloc S1.out _
    have t0 : W2.cell? ⟨g2, 0, none⟩ = some (.int .i64 2) := by rw [← HW2.out, ← HG2.out]; exact cell_first rfl
    have t1 : W2.cell? ⟨g2, 1, none⟩ = some (.string sb) := by rw [← HW2.out, ← HG2.out]; exact cell_first rfl
    have HG2L : Hid (g2 < W2.heap.size) := by show _ < _; rw [← HW2.out, ← HG2.out]; simp
    have HRD : Hid (readT true bs = ⟨2, thB bs⟩) := rfl
    have HZ2 : Hid (thK.Lie W2 W2.heap.size Z zn was) := by show thK.Lie _ _ _ _ _; rw [← HW2.out]; exact HZ.out.since ((Below.refl _ _).alloc (Nat.le_refl _) _)
    have C1 := Lib.hid (tsearch_any Z zn zc was (readT true bs) W2 HS.out (by omega) HZ2.out)
    unfold whereTh at C1
    rw [HJ.out, HQ.out, show thV (readT true bs) = .agg #[.int .i64 2, .string sb] by rw [← HSB.out]; rfl] at C1
    have HOT := Lib.hid (ok_read true bs)
    have HCL : Hid (thCells (readT true bs) = [.int .i64 2, .string sb]) := by show _ = _; rw [← HSB.out]; rfl
    obtain ⟨rd, HRR⟩ : ∃ r, Hid (readT true bs = r) := ⟨_, rfl⟩
    rw [HRR.out] at HOT HCL ⊢
    have c3'' : (W1.alloc (.cells #[.int .i64 1, .string sb] 85)).cell? ⟨g, 3, none⟩ = some (.bool true) := cell_old c3'
    clear HRD HBE HRR
    go_enter Try.func53, Try.ntmps53
    go_wp2_with fail
    rw [HW1.out, HG.out]
    go_wp2_with (simp only [HCV.out])
    rw [HW2.out, HG2.out]
    refine C1.out.mono ?_
    rintro e w3 ⟨rfl, hg⟩
    have S3 : Hid (Below w.heap.size w w3) := below_chain S2.out hg.later
    have u0 := gro_cell (p := ⟨g2, 0, none⟩) hg HG2L.out t0
    have u1 := gro_cell (p := ⟨g2, 1, none⟩) hg HG2L.out t1
    obtain ⟨W4, HW4⟩ : ∃ W, Hid (w3.alloc (.cells #[.int .i64 2, .string sb] 85) = W) := ⟨_, rfl⟩
    obtain ⟨g4, HG4⟩ : ∃ g, Hid (w3.heap.size = g) := ⟨_, rfl⟩
    have S4 : Hid (Below w.heap.size w W4) := by show Below _ _ _; rw [← HW4.out]; exact since_alloc S3.out _
    have HL4 : Hid (thK.Lie W4 W4.heap.size (some ⟨g4, 0, none⟩) 1 [rd]) := by show thK.Lie _ _ _ _ _; rw [← HW4.out, ← HG4.out]; exact lie_one w3 rd HOT.out _ (by rw [HCL.out])
    have C2 := Lib.hid (with_any none (some ⟨g4, 0, none⟩) 0 0 1 1 [] [rd] W4 srt_nil (fun t ht => by rw [List.mem_singleton.1 ht]; exact HOT.out) (by omega) Kind.Lie.none_ (fun _ => rfl) HL4.out)
    clear t0 t1 hg
    go_wp2_with fail
    rw [HW4.out, HG4.out]
    refine C2.out.mono ?_
    rintro e w5 ⟨A5, n5, c5, rfl, hR5, hB5⟩
    have HB5 : Hid (Below w.heap.size w w5) := below_chain S4.out hB5.out
    have HR5 : Hid (thK.Row w5 w.heap.size A5 n5 c5 (withT [] [rd])) := hR5.out.elder S4.out.size
    clear hR5 hB5 C2
    go_wp2_with fail
    go_ret2
    exact ⟨_, _, _, rfl, HB5, fun _ => Or.inl HR5.out⟩
set_option maxHeartbeats 8000000 in
theorem brefusal_any (x : Om) (r zn zc : Nat) (was : List Th) (bs : List Nat) (code : Int) (w : World) (hs : Srt was) (hb : Bytes w w.heap.size x.A x.n bs) (hz : thK.Lie w w.heap.size (some ⟨r, 0, none⟩) zn was) (h0 : 0 < zn) (hn : zn ≤ 400) :
    Calls Try.prog 52 #[ordV x, .slice (some ⟨r, 0, none⟩) zn zc, .int .i64 code] w (BehOut w (refusalT x.k bs was code) (some ⟨r, 0, none⟩) zn zc was) := by
  rcases x with ⟨k, a, A, n, c, m⟩
  obtain ⟨W1, HW1⟩ : ∃ W, Hid (w.alloc (.cells #[.int .i64 k, .int .u64 a, .slice A n c, .int .i64 m] 32) = W) := ⟨_, rfl⟩
  have S1 : Hid (Below w.heap.size w W1) := by show Below _ _ _; rw [← HW1.out]; exact (Below.refl _ _).alloc (Nat.le_refl _) _
  obtain ⟨g, HG⟩ : ∃ g, Hid (w.heap.size = g) := ⟨_, rfl⟩
  have c0 : W1.cell? ⟨g, 0, none⟩ = some (.int .i64 k) := by rw [← HW1.out, ← HG.out]; exact cell_first rfl
  have c1 : W1.cell? ⟨g, 1, none⟩ = some (.int .u64 a) := by rw [← HW1.out, ← HG.out]; exact cell_first rfl
  have c2 : W1.cell? ⟨g, 2, none⟩ = some (.slice A n c) := by rw [← HW1.out, ← HG.out]; exact cell_first rfl
  have c3 : W1.cell? ⟨g, 3, none⟩ = some (.int .i64 m) := by rw [← HW1.out, ← HG.out]; exact cell_first rfl
  have HZ := Lib.hid (hz.since S1.out)
  have HS := Lib.hid hs
  have HBY := Lib.hid (hb.since S1.out)
  have HLN : Hid (was.length = zn) := hz.len
  clear hb hz hs
  have CM : Hid (Calls Try.prog 55 #[.agg #[.int .i64 k, .int .u64 a, .slice A n c, .int .i64 m], .slice (some ⟨r, 0, none⟩) zn zc] W1 (MadeOut W1 k bs was (some ⟨r, 0, none⟩) zn zc)) := made_any ⟨k, a, A, n, c, m⟩ (some ⟨r, 0, none⟩) zn zc was bs W1 HBY.out HZ.out (fun e => by cases e) (by omega)
  have CG : Hid (∀ W, Calls Try.prog 54 #[.agg #[.int .i64 k, .int .u64 a, .slice A n c, .int .i64 m]] W fun e w' => e = .returned (.bool (chgK k)) ∧ Below W.heap.size W w') := fun W => chg_any ⟨k, a, A, n, c, m⟩ W
  show Calls _ _ #[.agg #[.int .i64 k, .int .u64 a, .slice A n c, .int .i64 m], _, _] _ (BehOut w (refusalT k bs was code) (some ⟨r, 0, none⟩) zn zc was)
  obtain ⟨pr, HPR⟩ : ∃ p, Hid (refusalT k bs was code = p) := ⟨_, rfl⟩
  rw [HPR.out]
  obtain ⟨cg, HCGV⟩ : ∃ q, Hid (chgK k = q) := ⟨_, rfl⟩
  rw [HCGV.out] at CG
  rcases e4 : (code == 4) with _ | _
  · rcases e8 : (code == 8) with _ | _
    · rcases e5 : (code == 5) with _ | _
      · rcases e7 : (code == 7) with _ | _
        · rcases e10 : (code == 10) with _ | _
          · have HE : Hid (pr = ([], false)) := by show _ = _; rw [← HPR.out]; unfold refusalT; simp [e4, e8, e5, e7, e10]
            rw [HE.out]
            go_enter Try.func52, Try.ntmps52
            go_wp2_with fail
            rw [HW1.out, HG.out]
            go_wp2_with fail
            go_ret2
            exact ⟨_, _, _, rfl, S1, fun e => by cases e⟩
          · have HE : Hid (pr = (was, cg)) := by show _ = _; rw [← HPR.out]; unfold refusalT; simp [e4, e8, e5, e7, e10, HCGV.out]
            rw [HE.out]
            go_enter Try.func52, Try.ntmps52
            go_wp2_with fail
            rw [HW1.out, HG.out]
            go_wp2_with fail
            refine (CG.out _).mono ?_
            rintro e w3 ⟨rfl, hB3⟩
            have HB3 : Hid (Below w.heap.size w w3) := below_chain S1.out hB3
            clear hB3
            go_wp2_with fail
            go_ret2
            exact ⟨_, _, _, rfl, HB3, fun _ => Or.inr ⟨rfl, rfl, rfl, rfl⟩⟩
        · have HE : Hid (pr = (was, cg)) := by show _ = _; rw [← HPR.out]; unfold refusalT; simp [e4, e8, e5, e7, HCGV.out]
          rw [HE.out]
          go_enter Try.func52, Try.ntmps52
          go_wp2_with fail
          rw [HW1.out, HG.out]
          go_wp2_with fail
          refine (CG.out _).mono ?_
          rintro e w3 ⟨rfl, hB3⟩
          have HB3 : Hid (Below w.heap.size w w3) := below_chain S1.out hB3
          clear hB3
          go_wp2_with fail
          go_ret2
          exact ⟨_, _, _, rfl, HB3, fun _ => Or.inr ⟨rfl, rfl, rfl, rfl⟩⟩
      · rcases k3 : (k == 3) with _ | _
        · have HE : Hid (pr = (was, cg)) := by show _ = _; rw [← HPR.out]; unfold refusalT; simp [e4, e8, e5, k3, HCGV.out]
          rw [HE.out]
          go_enter Try.func52, Try.ntmps52
          go_wp2_with fail
          rw [HW1.out, HG.out]
          go_wp2_with fail
          refine (CG.out _).mono ?_
          rintro e w3 ⟨rfl, hB3⟩
          have HB3 : Hid (Below w.heap.size w w3) := below_chain S1.out hB3
          clear hB3
          go_wp2_with fail
          go_ret2
          exact ⟨_, _, _, rfl, HB3, fun _ => Or.inr ⟨rfl, rfl, rfl, rfl⟩⟩
        · have HE : Hid (pr = (was, true)) := by show _ = _; rw [← HPR.out]; unfold refusalT; simp [e4, e8, e5, k3]
          rw [HE.out]
          go_enter Try.func52, Try.ntmps52
          go_wp2_with fail
          rw [HW1.out, HG.out]
          go_wp2_with fail
          go_ret2
          exact ⟨_, _, _, rfl, S1, fun _ => Or.inr ⟨rfl, rfl, rfl, rfl⟩⟩
    · have hs1 : W1.heap.size = g + 1 := by rw [← HW1.out, ← HG.out]; simp
      obtain ⟨W2, HW2⟩ : ∃ W, Hid (W1.alloc (.cells #[.int .i64 0, .string (⟨#[]⟩ : ByteArray)] 85) = W) := ⟨_, rfl⟩
      have S2 : Hid (Below w.heap.size w W2) := by show Below _ _ _; rw [← HW2.out]; exact since_alloc S1.out _
      have HR2 : Hid (thK.Row W2 w.heap.size (some ⟨g + 1, 0, none⟩) 1 1 [Th.zero]) := by
        show thK.Row _ _ _ _ _ _
        rw [← hs1, ← HW2.out]
        exact (lie_lit_th W1 Th.zero ok_zero).elder S1.out.size
      have HZ2 : Hid (thK.Lie W2 W2.heap.size (some ⟨r, 0, none⟩) zn was) := by show thK.Lie _ _ _ _ _; rw [← HW2.out]; exact HZ.out.since ((Below.refl _ _).alloc (Nat.le_refl _) _)
      have CN := Lib.hid (isno_any _ zn zc was W2 h0 (by omega) HZ2.out)
      obtain ⟨no, HNO⟩ : ∃ q, Hid (isNo was = q) := ⟨_, rfl⟩
      rw [HNO.out] at CN
      have d0 : (W1.alloc (.cells #[.int .i64 0, .string (⟨#[]⟩ : ByteArray)] 85)).cell? ⟨g, 0, none⟩ = some (.int .i64 k) := cell_old c0
      rcases k3 : (k == 3) with _ | _
      · rcases k5 : (k == 5) with _ | _
        · have HE : Hid (pr = ([Th.zero], false)) := by show _ = _; rw [← HPR.out]; unfold refusalT; simp [e4, e8, k3, k5]
          rw [HE.out]
          go_enter Try.func52, Try.ntmps52
          go_wp2_with fail
          rw [HW1.out, HG.out]
          go_wp2_with fail
          go_ret2
          exact ⟨_, _, _, rfl, by show Below _ _ _; exact HW2.out ▸ S2.out, fun e => by cases e⟩
        · have HE : Hid (pr = ([Th.zero], no)) := by show _ = _; rw [← HPR.out]; unfold refusalT; simp [e4, e8, k3, k5, HNO.out]
          rw [HE.out]
          go_enter Try.func52, Try.ntmps52
          go_wp2_with fail
          rw [HW1.out, HG.out]
          go_wp2_with fail
          rw [HW2.out]
          refine CN.out.mono ?_
          rintro e w3 ⟨rfl, hw3⟩
          subst hw3
          go_wp2_with fail
          go_ret2
          exact ⟨_, _, _, rfl, S2, fun _ => Or.inl HR2.out⟩
      · have HE : Hid (pr = ([Th.zero], no)) := by show _ = _; rw [← HPR.out]; unfold refusalT; simp [e4, e8, k3, HNO.out]
        rw [HE.out]
        go_enter Try.func52, Try.ntmps52
        go_wp2_with fail
        rw [HW1.out, HG.out]
        go_wp2_with fail
        rw [HW2.out]
        refine CN.out.mono ?_
        rintro e w3 ⟨rfl, hw3⟩
        subst hw3
        go_wp2_with fail
        go_ret2
        exact ⟨_, _, _, rfl, S2, fun _ => Or.inl HR2.out⟩
  · have HE : Hid (pr = (withT was (madeT k bs was), true)) := by show _ = _; rw [← HPR.out]; unfold refusalT; simp [e4]
    rw [HE.out]
    go_enter Try.func52, Try.ntmps52
    go_wp2_with fail
    rw [HW1.out, HG.out]
    go_wp2_with fail
    refine CM.out.mono ?_
    rintro e w3 ⟨A3, n3, c3, rfl, hB3, hL3, hC3, hO3⟩
    have HB3 : Hid (Below w.heap.size w w3) := below_chain S1.out hB3.out
    have HN3 : Hid (n3 ≤ 900) := by
      show _ ≤ _
      rw [← hL3.out.len]
      unfold madeT
      have e1 := len_with [⟨2, thB bs⟩] []
      have e2 := len_with [⟨1, thB bs⟩] []
      have e3 := len_with (was.map cleanT) []
      have e4 := HLN.out
      simp only [List.length_nil, List.length_singleton, List.length_map] at e1 e2 e3
      split
      · omega
      · split
        · omega
        · split
          · simp
          · split
            · unfold cleanedT; omega
            · omega
    have CW := Lib.hid (with_any (some ⟨r, 0, none⟩) A3 zn zc n3 c3 was (madeT k bs was) w3 HS.out (hL3.out.all) (by have := HN3.out; omega) (HZ.out.since hB3.out) (fun e => by cases e) hL3.out)
    clear hB3 hL3 hC3 hO3 CM
    go_wp2_with fail
    refine CW.out.mono ?_
    rintro e w4 ⟨A4, n4, c4, rfl, hR4, hB4⟩
    have HB4 : Hid (Below w.heap.size w w4) := below_chain HB3.out hB4.out
    have HR4 : Hid (thK.Row w4 w.heap.size A4 n4 c4 (withT was (madeT k bs was))) := hR4.out.elder HB3.out.size
    clear hR4 hB4 CW
    go_wp2_with fail
    go_ret2
    exact ⟨_, _, _, rfl, HB4, fun _ => Or.inl HR4.out⟩
end

section
open Go.RowKit Go.Sort

def behindT (k : Int) (bs : List Nat) (was : List Th) (rk re : Int) (rbs : List Nat) (rd : Bool) : List Th × Bool :=
  if rk == 4 then refusalT k bs was re
  else if rk == 2 && k == 3 then blockT was rbs rd
  else if rk == 1 && chgK k then (madeT k bs was, !(k == 5) || isBlk was)
  else ([], false)
def BehAt (w : World) (s : IS) (L : IdL) (a : Int) (p : List Th × Bool) (e : Ending) (w' : World) : Prop :=
  ∃ A n c, e = .returned (.tuple #[.slice A n c, .bool p.2]) ∧ Hid (Below w.heap.size w w') ∧ Hid (p.2 = true → (thK.Row w' w.heap.size A n c p.1 ∨ (a ∈ s.ks ∧ A = some ⟨L.g a, 0, none⟩ ∧ n = (s.f a).length ∧ c = L.c a ∧ p.1 = s.f a)))
/-- One call whose new row goes into a variable, within a region that draws its order. -/
structure MkJ (WD : World) (base : Nat) (l : List Th) (fs : List Bool) (vs : List Value) (W : World) : Prop where
  lf : fs.length = 2
  lv : vs.length = 2
  below : Below WD.heap.size WD W
  o1 : fs.getD 0 false = true → ∃ A n c, vs.getD 0 undef = .slice A n c ∧ thK.Row W base A n c l
  o2 : fs.getD 1 false = true → fs.getD 0 false = true ∧ vs.getD 1 undef = vs.getD 0 undef
section
variable {WD W W' : World} {base : Nat} {l : List Th} {fs : List Bool} {vs : List Value}
theorem MkJ.later (h : MkJ WD base l fs vs W) (hl : Later W W') : MkJ WD base l fs vs W' :=
  ⟨h.lf, h.lv, below_chain h.below hl, fun e => by
    obtain ⟨A, n, c, h1, h2⟩ := h.o1 e
    exact ⟨A, n, c, h1, h2.since hl⟩, h.o2⟩
theorem MkJ.make (h : MkJ WD base l fs vs W) (h1 : fs.getD 1 false = false) {A : Option Addr} {n c : Nat} (hr : thK.Row W base A n c l) : MkJ WD base l (fs.set 0 true) (vs.set 0 (.slice A n c)) W := by
  have lf := h.lf
  have lv := h.lv
  refine ⟨by simpa using lf, by simpa using lv, h.below, fun _ => ⟨A, n, c, gs_self (by omega), hr⟩, fun e => ?_⟩
  rw [gs_ne (by decide), h1] at e; cases e
theorem MkJ.assign (h : MkJ WD base l fs vs W) (h0 : fs.getD 0 false = true) : MkJ WD base l (fs.set 1 true) (vs.set 1 (vs.getD 0 undef)) W := by
  have lf := h.lf
  have lv := h.lv
  refine ⟨by simpa using lf, by simpa using lv, h.below, fun e => ?_, fun _ => ⟨by rw [gs_ne (by decide)]; exact h0, by rw [gs_self (by omega), gs_ne (by decide)]⟩⟩
  rw [gs_ne (by decide)] at e; rw [gs_ne (by decide)]; exact h.o1 e
theorem MkJ.start (hv : vs.length = 2) : MkJ WD base l [false, false] vs WD := ⟨rfl, hv, Below.refl _ _, fun e => (by cases e), fun e => (by cases e)⟩
end
theorem run_load_ord (p : Addr) (x : Om) (w : World) (h0 : w.cell? p = some (.int .i64 x.k)) (h1 : w.cell? ⟨p.block, p.off + 1, none⟩ = some (.int .u64 x.a)) (h2 : w.cell? ⟨p.block, p.off + 2, none⟩ = some (.slice x.A x.n x.c)) (h3 : w.cell? ⟨p.block, p.off + 3, none⟩ = some (.int .i64 x.m)) :
    (Instr.loadAt 32 (.pointer (some p))).run Try.prog w = .ok (ordV x) w := by
  unfold ordV
  go_simp
section
variable {w : World} {base o : Nat} {fp : Nat → Prop} {s : IS} {L : IdL}
set_option maxRecDepth 20000 in
set_option maxHeartbeats 16000000 in
theorem behind_any (h : IdIn w base fp o s L) (x : Om) (y : Rm) (bs rbs : List Nat) (hu : U64 x.a) (hb : Bytes w w.heap.size x.A x.n bs) (hr : Bytes w w.heap.size y.A y.n rbs) (hlen : (s.f x.a).length ≤ 400) :
    Calls Try.prog 35 #[.pointer (some ⟨o, 0, none⟩), ordV x, repV y] w (BehAt w s L x.a (behindT x.k bs (s.f x.a) y.k y.e rbs y.d)) := by
  rcases x with ⟨k, oa, A, n, c, m⟩
  rcases y with ⟨rk, re, rA, rn, rc, rd, zA, zn, zc⟩
  have hu : U64 oa := hu
  have hb : Bytes w w.heap.size A n bs := hb
  have hr : Bytes w w.heap.size rA rn rbs := hr
  have hlen : (s.f oa).length ≤ 400 := hlen
  obtain ⟨W1, HW1⟩ : ∃ W, Hid (w.alloc (.cells #[.int .i64 k, .int .u64 oa, .slice A n c, .int .i64 m] 32) = W) := ⟨_, rfl⟩
  obtain ⟨W2, HW2⟩ : ∃ W, Hid (W1.alloc (.cells #[.int .i64 rk, .int .i64 re, .slice rA rn rc, .bool rd, .slice zA zn zc] 36) = W) := ⟨_, rfl⟩
  obtain ⟨g, HG⟩ : ∃ g, Hid (w.heap.size = g) := ⟨_, rfl⟩
  have hs1 : W1.heap.size = g + 1 := by rw [← HW1.out, ← HG.out]; simp
  obtain ⟨g2, HG2⟩ : ∃ q, Hid (g + 1 = q) := ⟨_, rfl⟩
  rw [HG2.out] at hs1
  have S2 : Hid (Below w.heap.size w W2) := by show Below _ _ _; rw [← HW2.out]; exact since_alloc (by rw [← HW1.out]; exact (Below.refl _ _).alloc (Nat.le_refl _) _) _
  have HS2 : Hid (W2.heap.size = g2 + 1) := by show _ = _; rw [← HW2.out, ← hs1]; simp
  have HGG : Hid (g < g2) := by show _ < _; rw [← HG2.out]; omega
  have kc0 : W1.cell? ⟨g, 0, none⟩ = some (.int .i64 k) := by rw [← HW1.out, ← HG.out]; exact cell_first rfl
  have kc1 : W1.cell? ⟨g, 1, none⟩ = some (.int .u64 oa) := by rw [← HW1.out, ← HG.out]; exact cell_first rfl
  have kc2 : W1.cell? ⟨g, 2, none⟩ = some (.slice A n c) := by rw [← HW1.out, ← HG.out]; exact cell_first rfl
  have kc3 : W1.cell? ⟨g, 3, none⟩ = some (.int .i64 m) := by rw [← HW1.out, ← HG.out]; exact cell_first rfl
  have O0 : Hid (W2.cell? ⟨g, 0, none⟩ = some (.int .i64 k)) := by show _ = _; rw [← HW2.out]; exact cell_old kc0
  have O1 : Hid (W2.cell? ⟨g, 1, none⟩ = some (.int .u64 oa)) := by show _ = _; rw [← HW2.out]; exact cell_old kc1
  have O2 : Hid (W2.cell? ⟨g, 2, none⟩ = some (.slice A n c)) := by show _ = _; rw [← HW2.out]; exact cell_old kc2
  have O3 : Hid (W2.cell? ⟨g, 3, none⟩ = some (.int .i64 m)) := by show _ = _; rw [← HW2.out]; exact cell_old kc3
  have R0 : Hid (W2.cell? ⟨g2, 0, none⟩ = some (.int .i64 rk)) := by show _ = _; rw [← HW2.out, ← hs1]; exact cell_first rfl
  have R1 : Hid (W2.cell? ⟨g2, 1, none⟩ = some (.int .i64 re)) := by show _ = _; rw [← HW2.out, ← hs1]; exact cell_first rfl
  have R2 : Hid (W2.cell? ⟨g2, 2, none⟩ = some (.slice rA rn rc)) := by show _ = _; rw [← HW2.out, ← hs1]; exact cell_first rfl
  have R3 : Hid (W2.cell? ⟨g2, 3, none⟩ = some (.bool rd)) := by show _ = _; rw [← HW2.out, ← hs1]; exact cell_first rfl
  have R4 : Hid (W2.cell? ⟨g2, 4, none⟩ = some (.slice zA zn zc)) := by show _ = _; rw [← HW2.out, ← hs1]; exact cell_first rfl
  have CA := Lib.hid (at_any (h.since S2.out) hu)
  have HB := Lib.hid (hb.since S2.out)
  have HRB := Lib.hid (hr.since S2.out)
  have HS := Lib.hid (h.but.ok.l oa)
  have HLEN := Lib.hid hlen
  have HWW : Hid ((w.alloc (.cells #[.int .i64 k, .int .u64 oa, .slice A n c, .int .i64 m] 32)).alloc (.cells #[.int .i64 rk, .int .i64 re, .slice rA rn rc, .bool rd, .slice zA zn zc] 36) = W2) := by show _ = _; rw [HW1.out]; exact HW2.out
  clear kc0 kc1 kc2 kc3 hs1 HW1 HW2 h hb hr hlen hu
  show Calls _ _ #[_, .agg #[.int .i64 k, .int .u64 oa, .slice A n c, .int .i64 m], .agg #[.int .i64 rk, .int .i64 re, .slice rA rn rc, .bool rd, .slice zA zn zc]] _ (BehAt w s L oa (behindT k bs (s.f oa) rk re rbs rd))
  obtain ⟨was, HWAS⟩ : ∃ l, Hid (s.f oa = l) := ⟨_, rfl⟩
  obtain ⟨pr, HPR⟩ : ∃ p, Hid (behindT k bs (s.f oa) rk re rbs rd = p) := ⟨_, rfl⟩
  rw [HPR.out]
  rw [HWAS.out] at HPR HS HLEN
  obtain ⟨cg, HCGV⟩ : ∃ q, Hid (chgK k = q) := ⟨_, rfl⟩
  rcases e4 : (rk == 4) with _ | _
  · rcases e2 : (rk == 2) with _ | _
    · rcases e1 : (rk == 1) with _ | _
      · have HE : Hid (pr = ([], false)) := by show _ = _; rw [← HPR.out]; unfold behindT; simp [e4, e2, e1]
        rw [HE.out]
        go_enter Try.func35, Try.ntmps35
        have x0 := O0.out
        have x1 := O1.out
        have x2 := O2.out
        have x3 := O3.out
        have y0 := R0.out
        go_wp2_with fail
        rw [HWW.out, HG.out, HG2.out]
        go_wp2_with fail
        refine CA.out.mono ?_
        rintro e w3 ⟨r, q, d, rfl, hB3, hL3, hO3⟩
        rw [HWAS.out] at hL3 hO3
        have S3 : Hid (Below w.heap.size w w3) := below_chain S2.out hB3.out
        have HQ0 : Hid (0 < q ∧ q ≤ 400) := by
          have e1 := hL3.out.len
          have e2 := HLEN.out
          exact ⟨by rw [← e1]; exact List.length_pos_iff.2 HS.out.ne, by omega⟩
        have hg1 : g < W2.heap.size := by rw [HS2.out]; have := HGG.out; omega
        have hg2 : g2 < W2.heap.size := by rw [HS2.out]; omega
        have X0 := (hB3.out.cell (p := ⟨g, 0, none⟩) hg1).trans O0.out
        have X1 := (hB3.out.cell (p := ⟨g, 1, none⟩) hg1).trans O1.out
        have X2 := (hB3.out.cell (p := ⟨g, 2, none⟩) hg1).trans O2.out
        have X3 := (hB3.out.cell (p := ⟨g, 3, none⟩) hg1).trans O3.out
        have Y0 := (hB3.out.cell (p := ⟨g2, 0, none⟩) hg2).trans R0.out
        have Y1 := (hB3.out.cell (p := ⟨g2, 1, none⟩) hg2).trans R1.out
        have Y2 := (hB3.out.cell (p := ⟨g2, 2, none⟩) hg2).trans R2.out
        have Y3 := (hB3.out.cell (p := ⟨g2, 3, none⟩) hg2).trans R3.out
        have Y4 := (hB3.out.cell (p := ⟨g2, 4, none⟩) hg2).trans R4.out
        have HBY := Lib.hid (HB.out.since hB3.out)
        have HRBY := Lib.hid (HRB.out.since hB3.out)
        have HAT : Hid ((oa ∈ s.ks ∧ some (⟨r, 0, none⟩ : Addr) = some ⟨L.g oa, 0, none⟩ ∧ q = (s.f oa).length ∧ d = L.c oa) ∨ thK.Row w3 w.heap.size (some ⟨r, 0, none⟩) q d was) := by
          rcases hO3.out with ⟨h1, h2, h3, h4⟩ | h1
          · exact Or.inl ⟨h1, by rw [h2], by rw [HWAS.out]; exact h3, h4⟩
          · exact Or.inr (h1.elder S2.out.size)
        clear hg1 hg2 hO3 x0 x1 x2 x3 y0
        clear X0 X1 X2 X3
        go_wp2_with fail
        go_ret2
        exact ⟨_, _, _, rfl, S3, fun e => by cases e⟩
      · rcases cg with _ | _
        · have HE : Hid (pr = ([], false)) := by show _ = _; rw [← HPR.out]; unfold behindT; simp [e4, e2, e1, HCGV.out]
          rw [HE.out]
          go_enter Try.func35, Try.ntmps35
          have x0 := O0.out
          have x1 := O1.out
          have x2 := O2.out
          have x3 := O3.out
          have y0 := R0.out
          go_wp2_with fail
          rw [HWW.out, HG.out, HG2.out]
          go_wp2_with fail
          refine CA.out.mono ?_
          rintro e w3 ⟨r, q, d, rfl, hB3, hL3, hO3⟩
          rw [HWAS.out] at hL3 hO3
          have S3 : Hid (Below w.heap.size w w3) := below_chain S2.out hB3.out
          have HQ0 : Hid (0 < q ∧ q ≤ 400) := by
            have e1 := hL3.out.len
            have e2 := HLEN.out
            exact ⟨by rw [← e1]; exact List.length_pos_iff.2 HS.out.ne, by omega⟩
          have hg1 : g < W2.heap.size := by rw [HS2.out]; have := HGG.out; omega
          have hg2 : g2 < W2.heap.size := by rw [HS2.out]; omega
          have X0 := (hB3.out.cell (p := ⟨g, 0, none⟩) hg1).trans O0.out
          have X1 := (hB3.out.cell (p := ⟨g, 1, none⟩) hg1).trans O1.out
          have X2 := (hB3.out.cell (p := ⟨g, 2, none⟩) hg1).trans O2.out
          have X3 := (hB3.out.cell (p := ⟨g, 3, none⟩) hg1).trans O3.out
          have Y0 := (hB3.out.cell (p := ⟨g2, 0, none⟩) hg2).trans R0.out
          have Y1 := (hB3.out.cell (p := ⟨g2, 1, none⟩) hg2).trans R1.out
          have Y2 := (hB3.out.cell (p := ⟨g2, 2, none⟩) hg2).trans R2.out
          have Y3 := (hB3.out.cell (p := ⟨g2, 3, none⟩) hg2).trans R3.out
          have Y4 := (hB3.out.cell (p := ⟨g2, 4, none⟩) hg2).trans R4.out
          have HBY := Lib.hid (HB.out.since hB3.out)
          have HRBY := Lib.hid (HRB.out.since hB3.out)
          have HAT : Hid ((oa ∈ s.ks ∧ some (⟨r, 0, none⟩ : Addr) = some ⟨L.g oa, 0, none⟩ ∧ q = (s.f oa).length ∧ d = L.c oa) ∨ thK.Row w3 w.heap.size (some ⟨r, 0, none⟩) q d was) := by
            rcases hO3.out with ⟨h1, h2, h3, h4⟩ | h1
            · exact Or.inl ⟨h1, by rw [h2], by rw [HWAS.out]; exact h3, h4⟩
            · exact Or.inr (h1.elder S2.out.size)
          clear hg1 hg2 hO3 x0 x1 x2 x3 y0
          have CG := chg_any ⟨k, oa, A, n, c, m⟩ w3
          rw [show chgK (Om.mk k oa A n c m).k = false from HCGV.out] at CG
          have HCG : Hid (Calls Try.prog 54 #[.agg #[.int .i64 k, .int .u64 oa, .slice A n c, .int .i64 m]] w3 fun e w' => e = .returned (.bool false) ∧ Below w3.heap.size w3 w') := CG
          clear CG
          go_wp2_with fail
          refine HCG.out.mono ?_
          rintro e w4 ⟨rfl, hB4⟩
          have S4 : Hid (Below w.heap.size w w4) := below_chain S3.out hB4
          clear hB4 X0 X1 X2 X3 Y0 Y1 Y2 Y3 Y4
          go_wp2_with fail
          go_ret2
          exact ⟨_, _, _, rfl, S4, fun e => by cases e⟩
        · rcases k5 : (k == 5) with _ | _
          · have HE : Hid (pr = (madeT k bs was, true)) := by show _ = _; rw [← HPR.out]; unfold behindT; simp [e4, e2, e1, HCGV.out, k5]
            rw [HE.out]
            go_enter Try.func35, Try.ntmps35
            have x0 := O0.out
            have x1 := O1.out
            have x2 := O2.out
            have x3 := O3.out
            have y0 := R0.out
            go_wp2_with fail
            rw [HWW.out, HG.out, HG2.out]
            go_wp2_with fail
            refine CA.out.mono ?_
            rintro e w3 ⟨r, q, d, rfl, hB3, hL3, hO3⟩
            rw [HWAS.out] at hL3 hO3
            have S3 : Hid (Below w.heap.size w w3) := below_chain S2.out hB3.out
            have HQ0 : Hid (0 < q ∧ q ≤ 400) := by
              have e1 := hL3.out.len
              have e2 := HLEN.out
              exact ⟨by rw [← e1]; exact List.length_pos_iff.2 HS.out.ne, by omega⟩
            have hg1 : g < W2.heap.size := by rw [HS2.out]; have := HGG.out; omega
            have hg2 : g2 < W2.heap.size := by rw [HS2.out]; omega
            have X0 := (hB3.out.cell (p := ⟨g, 0, none⟩) hg1).trans O0.out
            have X1 := (hB3.out.cell (p := ⟨g, 1, none⟩) hg1).trans O1.out
            have X2 := (hB3.out.cell (p := ⟨g, 2, none⟩) hg1).trans O2.out
            have X3 := (hB3.out.cell (p := ⟨g, 3, none⟩) hg1).trans O3.out
            have Y0 := (hB3.out.cell (p := ⟨g2, 0, none⟩) hg2).trans R0.out
            have Y1 := (hB3.out.cell (p := ⟨g2, 1, none⟩) hg2).trans R1.out
            have Y2 := (hB3.out.cell (p := ⟨g2, 2, none⟩) hg2).trans R2.out
            have Y3 := (hB3.out.cell (p := ⟨g2, 3, none⟩) hg2).trans R3.out
            have Y4 := (hB3.out.cell (p := ⟨g2, 4, none⟩) hg2).trans R4.out
            have HBY := Lib.hid (HB.out.since hB3.out)
            have HRBY := Lib.hid (HRB.out.since hB3.out)
            have HAT : Hid ((oa ∈ s.ks ∧ some (⟨r, 0, none⟩ : Addr) = some ⟨L.g oa, 0, none⟩ ∧ q = (s.f oa).length ∧ d = L.c oa) ∨ thK.Row w3 w.heap.size (some ⟨r, 0, none⟩) q d was) := by
              rcases hO3.out with ⟨h1, h2, h3, h4⟩ | h1
              · exact Or.inl ⟨h1, by rw [h2], by rw [HWAS.out]; exact h3, h4⟩
              · exact Or.inr (h1.elder S2.out.size)
            clear hg1 hg2 hO3 x0 x1 x2 x3 y0
            have CG := chg_any ⟨k, oa, A, n, c, m⟩ w3
            rw [show chgK (Om.mk k oa A n c m).k = true from HCGV.out] at CG
            have HCG : Hid (Calls Try.prog 54 #[.agg #[.int .i64 k, .int .u64 oa, .slice A n c, .int .i64 m]] w3 fun e w' => e = .returned (.bool true) ∧ Below w3.heap.size w3 w') := CG
            clear CG
            go_wp2_with fail
            refine HCG.out.mono ?_
            rintro e w4 ⟨rfl, hB4⟩
            have hg3 : g < w3.heap.size := by have h1 := HGG.out; have h2 := HS2.out; have h3 := hB3.out.size; omega
            obtain ⟨WD, HWD⟩ : ∃ W, Hid (W = w4.drew) := ⟨_, rfl⟩
            have HDW : Hid (Below w3.heap.size w3 WD) := by show Below _ _ _; rw [HWD.out]; exact since_drew hB4
            have HKEEP : Hid (∀ W, Below WD.heap.size WD W → Below w3.heap.size w3 W) := fun W hb => below_chain HDW.out hb
            have HCELL : Hid (∀ W, Below WD.heap.size WD W → W.cell? ⟨g, 0, none⟩ = some (.int .i64 k) ∧ W.cell? ⟨g, 1, none⟩ = some (.int .u64 oa) ∧ W.cell? ⟨g, 2, none⟩ = some (.slice A n c) ∧ W.cell? ⟨g, 3, none⟩ = some (.int .i64 m)) := fun W hb => by
              have hk := HKEEP.out W hb
              exact ⟨(hk.cell (p := ⟨g, 0, none⟩) hg3).trans X0, (hk.cell (p := ⟨g, 1, none⟩) hg3).trans X1, (hk.cell (p := ⟨g, 2, none⟩) hg3).trans X2, (hk.cell (p := ⟨g, 3, none⟩) hg3).trans X3⟩
            have HLO : Hid (∀ W, Below WD.heap.size WD W → (Instr.loadAt 32 (.pointer (some ⟨g, 0, none⟩))).run Try.prog W = .ok (ordV ⟨k, oa, A, n, c, m⟩) W) := fun W hb => by
              obtain ⟨h1, h2, h3, h4⟩ := HCELL.out W hb
              exact run_load_ord ⟨g, 0, none⟩ ⟨k, oa, A, n, c, m⟩ W h1 h2 h3 h4
            have HLK : Hid (∀ W, Below WD.heap.size WD W → (Instr.loadAt 3 (.pointer (some ⟨g, 0, none⟩))).run Try.prog W = .ok (.int .i64 k) W) := fun W hb => run_load_i ⟨g, 0, none⟩ k W (HCELL.out W hb).1
            have HCM : Hid (∀ W, Below WD.heap.size WD W → Calls Try.prog 55 #[ordV ⟨k, oa, A, n, c, m⟩, .slice (some ⟨r, 0, none⟩) q d] W fun e w' => ∃ A9 n9 c9, e = .returned (.slice A9 n9 c9) ∧ Later W w' ∧ thK.Row w' w.heap.size A9 n9 c9 (madeT k bs was)) := fun W hb => by
              have hk := HKEEP.out W hb
              refine (made_any ⟨k, oa, A, n, c, m⟩ (some ⟨r, 0, none⟩) q d was bs W (HBY.out.since hk) (hL3.out.since hk) (fun e => by cases e) (by have := HQ0.out.2; omega)).mono ?_
              rintro e w' ⟨A9, n9, c9, rfl, h1, h2, h3, h4⟩
              refine ⟨A9, n9, c9, rfl, h1.out, ?_⟩
              rcases h4.out with ⟨_, h5⟩ | ⟨h5, _⟩
              · exact h5.elder (Nat.le_trans S3.out.size hk.size)
              · rw [show chgK (Om.mk k oa A n c m).k = true from HCGV.out] at h5; cases h5
            have HK5 : Hid ((k != 5) = true) := by show _ = _; simpa using k5
            have x0 : w4.cell? ⟨g2, 0, none⟩ = some (.int .i64 rk) := (hB4.cell (p := ⟨g2, 0, none⟩) (by have h1 := HS2.out; have h3 := hB3.out.size; show g2 < _; omega)).trans Y0
            clear X0 X1 X2 X3 Y0 Y1 Y2 Y3 Y4 hB4 hg3
            go_wp2_with fail
            refine region_of_steps7 (by kernel_rfl) [some (ordV ⟨k, oa, A, n, c, m⟩), some (.slice (some ⟨r, 0, none⟩) q d), none, some (.pointer (some ⟨g, 0, none⟩)), some (.int .i64 k), some (.bool true), some (.bool true), some undef, some undef, some (.bool true), none, some (.bool true)] [2, 10] [48, 6] (MkJ WD w.heap.size (madeT k bs was)) (by kernel_rfl) (by kernel_rfl) (by rw [← HWD.out]; exact MkJ.start (by rw [slots_len]; rfl)) ?_ ?_
            · refine Steps7.cons ?_ (Steps7.cons ?_ (Steps7.cons ?_ (Steps7.cons ?_ (Steps7.cons ?_ (Steps7.cons ?_ (Steps7.cons ?_ (Steps7.cons ?_ (Steps7.cons ?_ (Steps7.cons ?_ (Steps7.cons ?_ (Steps7.cons ?_ (Steps7.nil))))))))))))
              · intro listed a W H hj hl hd
                have t4 : a.tmps.getD 4 undef = .pointer (some ⟨g, 0, none⟩) := (H.old 4 (by kernel_rfl)).trans rfl
                exact step7_value (i := 0) rfl rfl (run_op_load rfl t4 (HLO.out W hj.below)) (calm7 (fun fs vs x y h hl => MkJ.later h hl) (by kernel_rfl) (by kernel_rfl) hj (later_refl _)) rfl
              · intro listed a W H hj hl hd
                have t8 : a.tmps.getD 8 undef = .slice (some ⟨r, 0, none⟩) q d := (H.old 8 (by kernel_rfl)).trans rfl
                exact step7_value (i := 1) rfl rfl (run_op_move rfl t8) (calm7 (fun fs vs x y h hl => MkJ.later h hl) (by kernel_rfl) (by kernel_rfl) hj (later_refl _)) rfl
              · intro listed a W H hj hl hd
                have t46 : a.tmps.getD 46 undef = ordV ⟨k, oa, A, n, c, m⟩ := H.get 0 46 (by kernel_rfl) (dep_of hd 0 (by kernel_rfl)) (fun _ h => by cases h)
                have t47 : a.tmps.getD 47 undef = .slice (some ⟨r, 0, none⟩) q d := H.get 1 47 (by kernel_rfl) (dep_of hd 1 (by kernel_rfl)) (fun _ h => by cases h)
                refine step7_call (i := 2) rfl rfl (run_op_call (vs := #[ordV ⟨k, oa, A, n, c, m⟩, .slice (some ⟨r, 0, none⟩) q d]) Try.func55 (by kernel_rfl) (by kernel_rfl) rfl (by simp only [List.map_toArray, List.map_cons, List.map_nil]; show (#[a.tmps.getD 46 undef, a.tmps.getD 47 undef] : Array Value) = _; rw [t46, t47])) ?_
                have f1 : (flags [2, 10] listed).getD 1 false = false := H.notyets 10 hl (by kernel_rfl)
                refine (HCM.out W hj.below).mono ?_
                rintro e w' ⟨A9, n9, c9, rfl, hl9, r9⟩
                have hk9 := (hj.later hl9).make f1 r9
                rw [← flags_put (m := 2) 0 rfl (by decide), ← slots_at (a := a) (d := 48) 0 rfl (by decide) (by rw [H.size]; exact of_decide_eq_true (by kernel_rfl))] at hk9
                exact ⟨_, rfl, hk9, trivial⟩
              · intro listed a W H hj hl hd
                have t4 : a.tmps.getD 4 undef = .pointer (some ⟨g, 0, none⟩) := (H.old 4 (by kernel_rfl)).trans rfl
                exact step7_value (i := 3) rfl rfl (run_op_fieldAddr rfl t4 (by go_simp)) (calm7 (fun fs vs x y h hl => MkJ.later h hl) (by kernel_rfl) (by kernel_rfl) hj (later_refl _)) rfl
              · intro listed a W H hj hl hd
                have t49 : a.tmps.getD 49 undef = .pointer (some ⟨g, 0, none⟩) := H.get 3 49 (by kernel_rfl) (dep_of hd 3 (by kernel_rfl)) (fun _ h => by cases h)
                exact step7_value (i := 4) rfl rfl (run_op_load rfl t49 (HLK.out W hj.below)) (calm7 (fun fs vs x y h hl => MkJ.later h hl) (by kernel_rfl) (by kernel_rfl) hj (later_refl _)) rfl
              · intro listed a W H hj hl hd
                have t50 : a.tmps.getD 50 undef = .int .i64 k := H.get 4 50 (by kernel_rfl) (dep_of hd 4 (by kernel_rfl)) (fun _ h => by cases h)
                exact step7_value (i := 5) rfl rfl (run_op_bin rfl t50 rfl (bin_neq _ _ _ k 5 true HK5.out)) (calm7 (fun fs vs x y h hl => MkJ.later h hl) (by kernel_rfl) (by kernel_rfl) hj (later_refl _)) rfl
              · intro listed a W H hj hl hd
                have t51 : a.tmps.getD 51 undef = .bool true := H.get 5 51 (by kernel_rfl) (dep_of hd 5 (by kernel_rfl)) (fun _ h => by cases h)
                exact step7_value (i := 6) rfl rfl (run_op_move rfl t51) (calm7 (fun fs vs x y h hl => MkJ.later h hl) (by kernel_rfl) (by kernel_rfl) hj (later_refl _)) rfl
              · intro listed a W H hj hl hd
                have t52 : a.tmps.getD 52 undef = .bool true := H.get 6 52 (by kernel_rfl) (dep_of hd 6 (by kernel_rfl)) (fun _ h => by cases h)
                exact step7_skip (i := 7) rfl (unwanted_at (j := 6) (d := 52) (b := false) (c := true) rfl (by kernel_rfl) t52 rfl) (calm7 (fun fs vs x y h hl => MkJ.later h hl) (by kernel_rfl) (by kernel_rfl) hj (later_refl _)) rfl
              · intro listed a W H hj hl hd
                have t52 : a.tmps.getD 52 undef = .bool true := H.get 6 52 (by kernel_rfl) (dep_of hd 6 (by kernel_rfl)) (fun _ h => by cases h)
                exact step7_skip (i := 8) rfl (unwanted_at (j := 6) (d := 52) (b := false) (c := true) rfl (by kernel_rfl) t52 rfl) (calm7 (fun fs vs x y h hl => MkJ.later h hl) (by kernel_rfl) (by kernel_rfl) hj (later_refl _)) rfl
              · intro listed a W H hj hl hd
                have t52 : a.tmps.getD 52 undef = .bool true := H.get 6 52 (by kernel_rfl) (dep_of hd 6 (by kernel_rfl)) (fun _ h => by cases h)
                exact step7_value (i := 9) rfl rfl (run_op_pick rfl t52 rfl) (calm7 (fun fs vs x y h hl => MkJ.later h hl) (by kernel_rfl) (by kernel_rfl) hj (later_refl _)) rfl
              · intro listed a W H hj hl hd
                have d48 : listed.getD 2 false = true := dep_of hd 2 (by kernel_rfl)
                have f0 : (flags [2, 10] listed).getD 0 false = true := done_true (dep_of hd 2 (by kernel_rfl))
                have hk9 := hj.assign f0
                rw [← flags_put (m := 10) 1 rfl (by decide), ← slots_at (a := a) (d := 6) 1 rfl (by decide) (by rw [H.size]; exact of_decide_eq_true (by kernel_rfl))] at hk9
                exact step7_value (i := 10) rfl rfl (run_op_assign rfl rfl) hk9 trivial
              · intro listed a W H hj hl hd
                have t55 : a.tmps.getD 55 undef = .bool true := H.get 9 55 (by kernel_rfl) (dep_of hd 9 (by kernel_rfl)) (fun _ h => by cases h)
                exact step7_value (i := 11) rfl rfl (run_op_assign rfl t55) (calm7 (fun fs vs x y h hl => MkJ.later h hl) (by kernel_rfl) (by kernel_rfl) hj (later_refl _)) rfl
            · intro a WC hdef hsz hw hall hact
              obtain ⟨u, hu⟩ : ∃ u : Nat → Value, ∀ k, a.tmps.getD k undef = u k := ⟨_, fun _ => rfl⟩
              have h7 : u 7 = .bool true := by rw [← hu]; exact hall 11 _ rfl
              simp only [hu] at hact
              have hact' : a = ([46, 47, 48, 49, 50, 51, 52, 53, 54, 55, 6, 7] : List Nat).foldl (fun b k => b.put (some k) (u k)) _ := hact
              simp only [List.foldl] at hact'
              simp only [Act.put, List.setIfInBounds_toArray, List.set_cons_succ, List.set_cons_zero] at hact'
              have HAC := Lib.hid hact'
              have HX := Lib.hid hw
              clear hact hact' hall hdef hsz hw
              rw [h7] at HAC
              rw [HAC.out]
              obtain ⟨k1, k2⟩ := HX.out.o2 rfl
              obtain ⟨A6, n6, c6, e6, r6⟩ := HX.out.o1 k1
              have e59 : u 6 = .slice A6 n6 c6 := by rw [← hu]; exact k2.trans e6
              have S6 : Hid (Below w.heap.size w WC) := (below_chain S3.out HDW.out).trans (HX.out.below.mono (Nat.le_trans S3.out.size HDW.out.size))
              have R6 := Lib.hid r6
              rw [e59]
              clear HX e6 r6 e59 hu k1 k2 h7
              go_wp2_with fail
              go_ret2
              exact ⟨_, _, _, rfl, S6, fun _ => Or.inl R6.out⟩
          · have HE : Hid (pr = (madeT k bs was, isBlk was)) := by show _ = _; rw [← HPR.out]; unfold behindT; simp [e4, e2, e1, HCGV.out, k5]
            obtain ⟨ib, HIB⟩ : ∃ q, Hid (isBlk was = q) := ⟨_, rfl⟩
            rw [HIB.out] at HE
            rw [HE.out]
            go_enter Try.func35, Try.ntmps35
            have x0 := O0.out
            have x1 := O1.out
            have x2 := O2.out
            have x3 := O3.out
            have y0 := R0.out
            go_wp2_with fail
            rw [HWW.out, HG.out, HG2.out]
            go_wp2_with fail
            refine CA.out.mono ?_
            rintro e w3 ⟨r, q, d, rfl, hB3, hL3, hO3⟩
            rw [HWAS.out] at hL3 hO3
            have S3 : Hid (Below w.heap.size w w3) := below_chain S2.out hB3.out
            have HQ0 : Hid (0 < q ∧ q ≤ 400) := by
              have e1 := hL3.out.len
              have e2 := HLEN.out
              exact ⟨by rw [← e1]; exact List.length_pos_iff.2 HS.out.ne, by omega⟩
            have hg1 : g < W2.heap.size := by rw [HS2.out]; have := HGG.out; omega
            have hg2 : g2 < W2.heap.size := by rw [HS2.out]; omega
            have X0 := (hB3.out.cell (p := ⟨g, 0, none⟩) hg1).trans O0.out
            have X1 := (hB3.out.cell (p := ⟨g, 1, none⟩) hg1).trans O1.out
            have X2 := (hB3.out.cell (p := ⟨g, 2, none⟩) hg1).trans O2.out
            have X3 := (hB3.out.cell (p := ⟨g, 3, none⟩) hg1).trans O3.out
            have Y0 := (hB3.out.cell (p := ⟨g2, 0, none⟩) hg2).trans R0.out
            have Y1 := (hB3.out.cell (p := ⟨g2, 1, none⟩) hg2).trans R1.out
            have Y2 := (hB3.out.cell (p := ⟨g2, 2, none⟩) hg2).trans R2.out
            have Y3 := (hB3.out.cell (p := ⟨g2, 3, none⟩) hg2).trans R3.out
            have Y4 := (hB3.out.cell (p := ⟨g2, 4, none⟩) hg2).trans R4.out
            have HBY := Lib.hid (HB.out.since hB3.out)
            have HRBY := Lib.hid (HRB.out.since hB3.out)
            have HAT : Hid ((oa ∈ s.ks ∧ some (⟨r, 0, none⟩ : Addr) = some ⟨L.g oa, 0, none⟩ ∧ q = (s.f oa).length ∧ d = L.c oa) ∨ thK.Row w3 w.heap.size (some ⟨r, 0, none⟩) q d was) := by
              rcases hO3.out with ⟨h1, h2, h3, h4⟩ | h1
              · exact Or.inl ⟨h1, by rw [h2], by rw [HWAS.out]; exact h3, h4⟩
              · exact Or.inr (h1.elder S2.out.size)
            clear hg1 hg2 hO3 x0 x1 x2 x3 y0
            have CG := chg_any ⟨k, oa, A, n, c, m⟩ w3
            rw [show chgK (Om.mk k oa A n c m).k = true from HCGV.out] at CG
            have HCG : Hid (Calls Try.prog 54 #[.agg #[.int .i64 k, .int .u64 oa, .slice A n c, .int .i64 m]] w3 fun e w' => e = .returned (.bool true) ∧ Below w3.heap.size w3 w') := CG
            clear CG
            go_wp2_with fail
            refine HCG.out.mono ?_
            rintro e w4 ⟨rfl, hB4⟩
            have hg3 : g < w3.heap.size := by have h1 := HGG.out; have h2 := HS2.out; have h3 := hB3.out.size; omega
            obtain ⟨WD, HWD⟩ : ∃ W, Hid (W = w4.drew) := ⟨_, rfl⟩
            have HDW : Hid (Below w3.heap.size w3 WD) := by show Below _ _ _; rw [HWD.out]; exact since_drew hB4
            have HKEEP : Hid (∀ W, Below WD.heap.size WD W → Below w3.heap.size w3 W) := fun W hb => below_chain HDW.out hb
            have HCELL : Hid (∀ W, Below WD.heap.size WD W → W.cell? ⟨g, 0, none⟩ = some (.int .i64 k) ∧ W.cell? ⟨g, 1, none⟩ = some (.int .u64 oa) ∧ W.cell? ⟨g, 2, none⟩ = some (.slice A n c) ∧ W.cell? ⟨g, 3, none⟩ = some (.int .i64 m)) := fun W hb => by
              have hk := HKEEP.out W hb
              exact ⟨(hk.cell (p := ⟨g, 0, none⟩) hg3).trans X0, (hk.cell (p := ⟨g, 1, none⟩) hg3).trans X1, (hk.cell (p := ⟨g, 2, none⟩) hg3).trans X2, (hk.cell (p := ⟨g, 3, none⟩) hg3).trans X3⟩
            have HLO : Hid (∀ W, Below WD.heap.size WD W → (Instr.loadAt 32 (.pointer (some ⟨g, 0, none⟩))).run Try.prog W = .ok (ordV ⟨k, oa, A, n, c, m⟩) W) := fun W hb => by
              obtain ⟨h1, h2, h3, h4⟩ := HCELL.out W hb
              exact run_load_ord ⟨g, 0, none⟩ ⟨k, oa, A, n, c, m⟩ W h1 h2 h3 h4
            have HLK : Hid (∀ W, Below WD.heap.size WD W → (Instr.loadAt 3 (.pointer (some ⟨g, 0, none⟩))).run Try.prog W = .ok (.int .i64 k) W) := fun W hb => run_load_i ⟨g, 0, none⟩ k W (HCELL.out W hb).1
            have HCM : Hid (∀ W, Below WD.heap.size WD W → Calls Try.prog 55 #[ordV ⟨k, oa, A, n, c, m⟩, .slice (some ⟨r, 0, none⟩) q d] W fun e w' => ∃ A9 n9 c9, e = .returned (.slice A9 n9 c9) ∧ Later W w' ∧ thK.Row w' w.heap.size A9 n9 c9 (madeT k bs was)) := fun W hb => by
              have hk := HKEEP.out W hb
              refine (made_any ⟨k, oa, A, n, c, m⟩ (some ⟨r, 0, none⟩) q d was bs W (HBY.out.since hk) (hL3.out.since hk) (fun e => by cases e) (by have := HQ0.out.2; omega)).mono ?_
              rintro e w' ⟨A9, n9, c9, rfl, h1, h2, h3, h4⟩
              refine ⟨A9, n9, c9, rfl, h1.out, ?_⟩
              rcases h4.out with ⟨_, h5⟩ | ⟨h5, _⟩
              · exact h5.elder (Nat.le_trans S3.out.size hk.size)
              · rw [show chgK (Om.mk k oa A n c m).k = true from HCGV.out] at h5; cases h5
            have HCI : Hid (∀ W, Below WD.heap.size WD W → Calls Try.prog 56 #[.slice (some ⟨r, 0, none⟩) q d] W fun e w' => e = .returned (.bool ib) ∧ w' = W) := fun W hb => by
              have := isblk_any (some ⟨r, 0, none⟩) q d was W HQ0.out.1 (by have := HQ0.out.2; omega) (hL3.out.since (HKEEP.out W hb))
              rw [HIB.out] at this; exact this
            have HK5 : Hid ((k != 5) = false) := by show _ = _; simpa using k5
            have x0 : w4.cell? ⟨g2, 0, none⟩ = some (.int .i64 rk) := (hB4.cell (p := ⟨g2, 0, none⟩) (by have h1 := HS2.out; have h3 := hB3.out.size; show g2 < _; omega)).trans Y0
            clear X0 X1 X2 X3 Y0 Y1 Y2 Y3 Y4 hB4 hg3
            go_wp2_with fail
            refine region_of_steps7 (by kernel_rfl) [some (ordV ⟨k, oa, A, n, c, m⟩), some (.slice (some ⟨r, 0, none⟩) q d), none, some (.pointer (some ⟨g, 0, none⟩)), some (.int .i64 k), some (.bool false), some (.bool false), some (.slice (some ⟨r, 0, none⟩) q d), some (.bool ib), some (.bool ib), none, some (.bool ib)] [2, 10] [48, 6] (MkJ WD w.heap.size (madeT k bs was)) (by kernel_rfl) (by kernel_rfl) (by rw [← HWD.out]; exact MkJ.start (by rw [slots_len]; rfl)) ?_ ?_
            · refine Steps7.cons ?_ (Steps7.cons ?_ (Steps7.cons ?_ (Steps7.cons ?_ (Steps7.cons ?_ (Steps7.cons ?_ (Steps7.cons ?_ (Steps7.cons ?_ (Steps7.cons ?_ (Steps7.cons ?_ (Steps7.cons ?_ (Steps7.cons ?_ (Steps7.nil))))))))))))
              · intro listed a W H hj hl hd
                have t4 : a.tmps.getD 4 undef = .pointer (some ⟨g, 0, none⟩) := (H.old 4 (by kernel_rfl)).trans rfl
                exact step7_value (i := 0) rfl rfl (run_op_load rfl t4 (HLO.out W hj.below)) (calm7 (fun fs vs x y h hl => MkJ.later h hl) (by kernel_rfl) (by kernel_rfl) hj (later_refl _)) rfl
              · intro listed a W H hj hl hd
                have t8 : a.tmps.getD 8 undef = .slice (some ⟨r, 0, none⟩) q d := (H.old 8 (by kernel_rfl)).trans rfl
                exact step7_value (i := 1) rfl rfl (run_op_move rfl t8) (calm7 (fun fs vs x y h hl => MkJ.later h hl) (by kernel_rfl) (by kernel_rfl) hj (later_refl _)) rfl
              · intro listed a W H hj hl hd
                have t46 : a.tmps.getD 46 undef = ordV ⟨k, oa, A, n, c, m⟩ := H.get 0 46 (by kernel_rfl) (dep_of hd 0 (by kernel_rfl)) (fun _ h => by cases h)
                have t47 : a.tmps.getD 47 undef = .slice (some ⟨r, 0, none⟩) q d := H.get 1 47 (by kernel_rfl) (dep_of hd 1 (by kernel_rfl)) (fun _ h => by cases h)
                refine step7_call (i := 2) rfl rfl (run_op_call (vs := #[ordV ⟨k, oa, A, n, c, m⟩, .slice (some ⟨r, 0, none⟩) q d]) Try.func55 (by kernel_rfl) (by kernel_rfl) rfl (by simp only [List.map_toArray, List.map_cons, List.map_nil]; show (#[a.tmps.getD 46 undef, a.tmps.getD 47 undef] : Array Value) = _; rw [t46, t47])) ?_
                have f1 : (flags [2, 10] listed).getD 1 false = false := H.notyets 10 hl (by kernel_rfl)
                refine (HCM.out W hj.below).mono ?_
                rintro e w' ⟨A9, n9, c9, rfl, hl9, r9⟩
                have hk9 := (hj.later hl9).make f1 r9
                rw [← flags_put (m := 2) 0 rfl (by decide), ← slots_at (a := a) (d := 48) 0 rfl (by decide) (by rw [H.size]; exact of_decide_eq_true (by kernel_rfl))] at hk9
                exact ⟨_, rfl, hk9, trivial⟩
              · intro listed a W H hj hl hd
                have t4 : a.tmps.getD 4 undef = .pointer (some ⟨g, 0, none⟩) := (H.old 4 (by kernel_rfl)).trans rfl
                exact step7_value (i := 3) rfl rfl (run_op_fieldAddr rfl t4 (by go_simp)) (calm7 (fun fs vs x y h hl => MkJ.later h hl) (by kernel_rfl) (by kernel_rfl) hj (later_refl _)) rfl
              · intro listed a W H hj hl hd
                have t49 : a.tmps.getD 49 undef = .pointer (some ⟨g, 0, none⟩) := H.get 3 49 (by kernel_rfl) (dep_of hd 3 (by kernel_rfl)) (fun _ h => by cases h)
                exact step7_value (i := 4) rfl rfl (run_op_load rfl t49 (HLK.out W hj.below)) (calm7 (fun fs vs x y h hl => MkJ.later h hl) (by kernel_rfl) (by kernel_rfl) hj (later_refl _)) rfl
              · intro listed a W H hj hl hd
                have t50 : a.tmps.getD 50 undef = .int .i64 k := H.get 4 50 (by kernel_rfl) (dep_of hd 4 (by kernel_rfl)) (fun _ h => by cases h)
                exact step7_value (i := 5) rfl rfl (run_op_bin rfl t50 rfl (bin_neq _ _ _ k 5 false HK5.out)) (calm7 (fun fs vs x y h hl => MkJ.later h hl) (by kernel_rfl) (by kernel_rfl) hj (later_refl _)) rfl
              · intro listed a W H hj hl hd
                have t51 : a.tmps.getD 51 undef = .bool false := H.get 5 51 (by kernel_rfl) (dep_of hd 5 (by kernel_rfl)) (fun _ h => by cases h)
                exact step7_value (i := 6) rfl rfl (run_op_move rfl t51) (calm7 (fun fs vs x y h hl => MkJ.later h hl) (by kernel_rfl) (by kernel_rfl) hj (later_refl _)) rfl
              · intro listed a W H hj hl hd
                have t52 : a.tmps.getD 52 undef = .bool false := H.get 6 52 (by kernel_rfl) (dep_of hd 6 (by kernel_rfl)) (fun _ h => by cases h)
                have t8 : a.tmps.getD 8 undef = .slice (some ⟨r, 0, none⟩) q d := (H.old 8 (by kernel_rfl)).trans rfl
                exact step7_value (i := 7) rfl (wanted_at (j := 6) (d := 52) (b := false) rfl (by kernel_rfl) t52) (run_op_move rfl t8) (calm7 (fun fs vs x y h hl => MkJ.later h hl) (by kernel_rfl) (by kernel_rfl) hj (later_refl _)) rfl
              · intro listed a W H hj hl hd
                have t52 : a.tmps.getD 52 undef = .bool false := H.get 6 52 (by kernel_rfl) (dep_of hd 6 (by kernel_rfl)) (fun _ h => by cases h)
                have t53 : a.tmps.getD 53 undef = .slice (some ⟨r, 0, none⟩) q d := H.get 7 53 (by kernel_rfl) (dep_of hd 7 (by kernel_rfl)) (fun _ h => by cases h)
                refine step7_call (i := 8) rfl (wanted_at (j := 6) (d := 52) (b := false) rfl (by kernel_rfl) t52) (run_op_call (vs := #[.slice (some ⟨r, 0, none⟩) q d]) Try.func56 (by kernel_rfl) (by kernel_rfl) rfl (by simp only [List.map_toArray, List.map_cons, List.map_nil]; show (#[a.tmps.getD 53 undef] : Array Value) = _; rw [t53])) ?_
                refine (HCI.out W hj.below).mono ?_
                rintro e w' ⟨rfl, rfl⟩
                exact ⟨_, rfl, (calm7 (fun fs vs x y h hl => MkJ.later h hl) (by kernel_rfl) (by kernel_rfl) hj (later_refl _)), rfl⟩
              · intro listed a W H hj hl hd
                have t52 : a.tmps.getD 52 undef = .bool false := H.get 6 52 (by kernel_rfl) (dep_of hd 6 (by kernel_rfl)) (fun _ h => by cases h)
                have t54 : a.tmps.getD 54 undef = .bool ib := H.get 8 54 (by kernel_rfl) (dep_of hd 8 (by kernel_rfl)) (fun _ h => by cases h)
                exact step7_value (i := 9) rfl rfl (run_op_pickF rfl t52 t54) (calm7 (fun fs vs x y h hl => MkJ.later h hl) (by kernel_rfl) (by kernel_rfl) hj (later_refl _)) rfl
              · intro listed a W H hj hl hd
                have d48 : listed.getD 2 false = true := dep_of hd 2 (by kernel_rfl)
                have f0 : (flags [2, 10] listed).getD 0 false = true := done_true (dep_of hd 2 (by kernel_rfl))
                have hk9 := hj.assign f0
                rw [← flags_put (m := 10) 1 rfl (by decide), ← slots_at (a := a) (d := 6) 1 rfl (by decide) (by rw [H.size]; exact of_decide_eq_true (by kernel_rfl))] at hk9
                exact step7_value (i := 10) rfl rfl (run_op_assign rfl rfl) hk9 trivial
              · intro listed a W H hj hl hd
                have t55 : a.tmps.getD 55 undef = .bool ib := H.get 9 55 (by kernel_rfl) (dep_of hd 9 (by kernel_rfl)) (fun _ h => by cases h)
                exact step7_value (i := 11) rfl rfl (run_op_assign rfl t55) (calm7 (fun fs vs x y h hl => MkJ.later h hl) (by kernel_rfl) (by kernel_rfl) hj (later_refl _)) rfl
            · intro a WC hdef hsz hw hall hact
              obtain ⟨u, hu⟩ : ∃ u : Nat → Value, ∀ k, a.tmps.getD k undef = u k := ⟨_, fun _ => rfl⟩
              have h7 : u 7 = .bool ib := by rw [← hu]; exact hall 11 _ rfl
              simp only [hu] at hact
              have hact' : a = ([46, 47, 48, 49, 50, 51, 52, 53, 54, 55, 6, 7] : List Nat).foldl (fun b k => b.put (some k) (u k)) _ := hact
              simp only [List.foldl] at hact'
              simp only [Act.put, List.setIfInBounds_toArray, List.set_cons_succ, List.set_cons_zero] at hact'
              have HAC := Lib.hid hact'
              have HX := Lib.hid hw
              clear hact hact' hall hdef hsz hw
              rw [h7] at HAC
              rw [HAC.out]
              obtain ⟨k1, k2⟩ := HX.out.o2 rfl
              obtain ⟨A6, n6, c6, e6, r6⟩ := HX.out.o1 k1
              have e59 : u 6 = .slice A6 n6 c6 := by rw [← hu]; exact k2.trans e6
              have S6 : Hid (Below w.heap.size w WC) := (below_chain S3.out HDW.out).trans (HX.out.below.mono (Nat.le_trans S3.out.size HDW.out.size))
              have R6 := Lib.hid r6
              rw [e59]
              clear HX e6 r6 e59 hu k1 k2 h7
              go_wp2_with fail
              go_ret2
              exact ⟨_, _, _, rfl, S6, fun _ => Or.inl R6.out⟩
    · rcases k3 : (k == 3) with _ | _
      · have HE : Hid (pr = (if rk == 1 && chgK k then (madeT k bs was, !(k == 5) || isBlk was) else ([], false))) := by show _ = _; rw [← HPR.out]; unfold behindT; simp [e4, e2, k3]
        have e1 : (rk == 1) = false := by
          have h1 : rk = 2 := by simpa using e2
          rw [h1]; rfl
        have HE2 : Hid (pr = ([], false)) := by show _ = _; rw [HE.out]; simp [e1]
        rw [HE2.out]
        go_enter Try.func35, Try.ntmps35
        have x0 := O0.out
        have x1 := O1.out
        have x2 := O2.out
        have x3 := O3.out
        have y0 := R0.out
        go_wp2_with fail
        rw [HWW.out, HG.out, HG2.out]
        go_wp2_with fail
        refine CA.out.mono ?_
        rintro e w3 ⟨r, q, d, rfl, hB3, hL3, hO3⟩
        rw [HWAS.out] at hL3 hO3
        have S3 : Hid (Below w.heap.size w w3) := below_chain S2.out hB3.out
        have HQ0 : Hid (0 < q ∧ q ≤ 400) := by
          have e1 := hL3.out.len
          have e2 := HLEN.out
          exact ⟨by rw [← e1]; exact List.length_pos_iff.2 HS.out.ne, by omega⟩
        have hg1 : g < W2.heap.size := by rw [HS2.out]; have := HGG.out; omega
        have hg2 : g2 < W2.heap.size := by rw [HS2.out]; omega
        have X0 := (hB3.out.cell (p := ⟨g, 0, none⟩) hg1).trans O0.out
        have X1 := (hB3.out.cell (p := ⟨g, 1, none⟩) hg1).trans O1.out
        have X2 := (hB3.out.cell (p := ⟨g, 2, none⟩) hg1).trans O2.out
        have X3 := (hB3.out.cell (p := ⟨g, 3, none⟩) hg1).trans O3.out
        have Y0 := (hB3.out.cell (p := ⟨g2, 0, none⟩) hg2).trans R0.out
        have Y1 := (hB3.out.cell (p := ⟨g2, 1, none⟩) hg2).trans R1.out
        have Y2 := (hB3.out.cell (p := ⟨g2, 2, none⟩) hg2).trans R2.out
        have Y3 := (hB3.out.cell (p := ⟨g2, 3, none⟩) hg2).trans R3.out
        have Y4 := (hB3.out.cell (p := ⟨g2, 4, none⟩) hg2).trans R4.out
        have HBY := Lib.hid (HB.out.since hB3.out)
        have HRBY := Lib.hid (HRB.out.since hB3.out)
        have HAT : Hid ((oa ∈ s.ks ∧ some (⟨r, 0, none⟩ : Addr) = some ⟨L.g oa, 0, none⟩ ∧ q = (s.f oa).length ∧ d = L.c oa) ∨ thK.Row w3 w.heap.size (some ⟨r, 0, none⟩) q d was) := by
          rcases hO3.out with ⟨h1, h2, h3, h4⟩ | h1
          · exact Or.inl ⟨h1, by rw [h2], by rw [HWAS.out]; exact h3, h4⟩
          · exact Or.inr (h1.elder S2.out.size)
        clear hg1 hg2 hO3 x0 x1 x2 x3 y0
        go_wp2_with fail
        go_ret2
        exact ⟨_, _, _, rfl, S3, fun e => by cases e⟩
      · have HE : Hid (pr = blockT was rbs rd) := by show _ = _; rw [← HPR.out]; unfold behindT; simp [e4, e2, k3]
        go_enter Try.func35, Try.ntmps35
        have x0 := O0.out
        have x1 := O1.out
        have x2 := O2.out
        have x3 := O3.out
        have y0 := R0.out
        go_wp2_with fail
        rw [HWW.out, HG.out, HG2.out]
        go_wp2_with fail
        refine CA.out.mono ?_
        rintro e w3 ⟨r, q, d, rfl, hB3, hL3, hO3⟩
        rw [HWAS.out] at hL3 hO3
        have S3 : Hid (Below w.heap.size w w3) := below_chain S2.out hB3.out
        have HQ0 : Hid (0 < q ∧ q ≤ 400) := by
          have e1 := hL3.out.len
          have e2 := HLEN.out
          exact ⟨by rw [← e1]; exact List.length_pos_iff.2 HS.out.ne, by omega⟩
        have hg1 : g < W2.heap.size := by rw [HS2.out]; have := HGG.out; omega
        have hg2 : g2 < W2.heap.size := by rw [HS2.out]; omega
        have X0 := (hB3.out.cell (p := ⟨g, 0, none⟩) hg1).trans O0.out
        have X1 := (hB3.out.cell (p := ⟨g, 1, none⟩) hg1).trans O1.out
        have X2 := (hB3.out.cell (p := ⟨g, 2, none⟩) hg1).trans O2.out
        have X3 := (hB3.out.cell (p := ⟨g, 3, none⟩) hg1).trans O3.out
        have Y0 := (hB3.out.cell (p := ⟨g2, 0, none⟩) hg2).trans R0.out
        have Y1 := (hB3.out.cell (p := ⟨g2, 1, none⟩) hg2).trans R1.out
        have Y2 := (hB3.out.cell (p := ⟨g2, 2, none⟩) hg2).trans R2.out
        have Y3 := (hB3.out.cell (p := ⟨g2, 3, none⟩) hg2).trans R3.out
        have Y4 := (hB3.out.cell (p := ⟨g2, 4, none⟩) hg2).trans R4.out
        have HBY := Lib.hid (HB.out.since hB3.out)
        have HRBY := Lib.hid (HRB.out.since hB3.out)
        have HAT : Hid ((oa ∈ s.ks ∧ some (⟨r, 0, none⟩ : Addr) = some ⟨L.g oa, 0, none⟩ ∧ q = (s.f oa).length ∧ d = L.c oa) ∨ thK.Row w3 w.heap.size (some ⟨r, 0, none⟩) q d was) := by
          rcases hO3.out with ⟨h1, h2, h3, h4⟩ | h1
          · exact Or.inl ⟨h1, by rw [h2], by rw [HWAS.out]; exact h3, h4⟩
          · exact Or.inr (h1.elder S2.out.size)
        clear hg1 hg2 hO3 x0 x1 x2 x3 y0
        have CB : Hid (Calls Try.prog 53 #[.slice (some ⟨r, 0, none⟩) q d, .agg #[.int .i64 rk, .int .i64 re, .slice rA rn rc, .bool rd, .slice zA zn zc]] w3 (BehOut w3 (blockT was rbs rd) (some ⟨r, 0, none⟩) q d was)) := bblock_any ⟨rk, re, rA, rn, rc, rd, zA, zn, zc⟩ (some ⟨r, 0, none⟩) q d was rbs w3 HS.out.srt HRBY.out hL3.out (by have := HQ0.out.2; omega)
        rw [← HE.out] at CB
        go_wp2_with fail
        refine CB.out.mono ?_
        rintro e w4 ⟨A4, n4, c4, rfl, hB4, hO4⟩
        have S4 : Hid (Below w.heap.size w w4) := below_chain S3.out hB4.out
        have HO4 : Hid (pr.2 = true → (thK.Row w4 w.heap.size A4 n4 c4 pr.1 ∨ (oa ∈ s.ks ∧ A4 = some ⟨L.g oa, 0, none⟩ ∧ n4 = (s.f oa).length ∧ c4 = L.c oa ∧ pr.1 = s.f oa))) := fun hp => by
          rcases hO4.out hp with h1 | ⟨h1, h2, h3, h4⟩
          · exact Or.inl (h1.elder S3.out.size)
          · rcases HAT.out with ⟨k1, k2, k3, k4⟩ | k1
            · exact Or.inr ⟨k1, h1.trans k2, h2.trans k3, h3.trans k4, by rw [h4, HWAS.out]⟩
            · refine Or.inl ?_
              rw [h4, h1, h2, h3]
              exact k1.since hB4.out
        clear hB4 hO4
        go_wp2_with fail
        go_ret2
        exact ⟨_, _, _, rfl, S4, HO4⟩
  · have HE : Hid (pr = refusalT k bs was re) := by show _ = _; rw [← HPR.out]; unfold behindT; simp [e4]
    go_enter Try.func35, Try.ntmps35
    have x0 := O0.out
    have x1 := O1.out
    have x2 := O2.out
    have x3 := O3.out
    have y0 := R0.out
    go_wp2_with fail
    rw [HWW.out, HG.out, HG2.out]
    go_wp2_with fail
    refine CA.out.mono ?_
    rintro e w3 ⟨r, q, d, rfl, hB3, hL3, hO3⟩
    rw [HWAS.out] at hL3 hO3
    have S3 : Hid (Below w.heap.size w w3) := below_chain S2.out hB3.out
    have HQ0 : Hid (0 < q ∧ q ≤ 400) := by
      have e1 := hL3.out.len
      have e2 := HLEN.out
      exact ⟨by rw [← e1]; exact List.length_pos_iff.2 HS.out.ne, by omega⟩
    have hg1 : g < W2.heap.size := by rw [HS2.out]; have := HGG.out; omega
    have hg2 : g2 < W2.heap.size := by rw [HS2.out]; omega
    have X0 := (hB3.out.cell (p := ⟨g, 0, none⟩) hg1).trans O0.out
    have X1 := (hB3.out.cell (p := ⟨g, 1, none⟩) hg1).trans O1.out
    have X2 := (hB3.out.cell (p := ⟨g, 2, none⟩) hg1).trans O2.out
    have X3 := (hB3.out.cell (p := ⟨g, 3, none⟩) hg1).trans O3.out
    have Y0 := (hB3.out.cell (p := ⟨g2, 0, none⟩) hg2).trans R0.out
    have Y1 := (hB3.out.cell (p := ⟨g2, 1, none⟩) hg2).trans R1.out
    have Y2 := (hB3.out.cell (p := ⟨g2, 2, none⟩) hg2).trans R2.out
    have Y3 := (hB3.out.cell (p := ⟨g2, 3, none⟩) hg2).trans R3.out
    have Y4 := (hB3.out.cell (p := ⟨g2, 4, none⟩) hg2).trans R4.out
    have HBY := Lib.hid (HB.out.since hB3.out)
    have HRBY := Lib.hid (HRB.out.since hB3.out)
    have HAT : Hid ((oa ∈ s.ks ∧ some (⟨r, 0, none⟩ : Addr) = some ⟨L.g oa, 0, none⟩ ∧ q = (s.f oa).length ∧ d = L.c oa) ∨ thK.Row w3 w.heap.size (some ⟨r, 0, none⟩) q d was) := by
      rcases hO3.out with ⟨h1, h2, h3, h4⟩ | h1
      · exact Or.inl ⟨h1, by rw [h2], by rw [HWAS.out]; exact h3, h4⟩
      · exact Or.inr (h1.elder S2.out.size)
    clear hg1 hg2 hO3 x0 x1 x2 x3 y0
    have CB : Hid (Calls Try.prog 52 #[.agg #[.int .i64 k, .int .u64 oa, .slice A n c, .int .i64 m], .slice (some ⟨r, 0, none⟩) q d, .int .i64 re] w3 (BehOut w3 (refusalT k bs was re) (some ⟨r, 0, none⟩) q d was)) := brefusal_any ⟨k, oa, A, n, c, m⟩ r q d was bs re w3 HS.out.srt HBY.out hL3.out HQ0.out.1 HQ0.out.2
    rw [← HE.out] at CB
    go_wp2_with fail
    refine CB.out.mono ?_
    rintro e w4 ⟨A4, n4, c4, rfl, hB4, hO4⟩
    have S4 : Hid (Below w.heap.size w w4) := below_chain S3.out hB4.out
    have HO4 : Hid (pr.2 = true → (thK.Row w4 w.heap.size A4 n4 c4 pr.1 ∨ (oa ∈ s.ks ∧ A4 = some ⟨L.g oa, 0, none⟩ ∧ n4 = (s.f oa).length ∧ c4 = L.c oa ∧ pr.1 = s.f oa))) := fun hp => by
      rcases hO4.out hp with h1 | ⟨h1, h2, h3, h4⟩
      · exact Or.inl (h1.elder S3.out.size)
      · rcases HAT.out with ⟨k1, k2, k3, k4⟩ | k1
        · exact Or.inr ⟨k1, h1.trans k2, h2.trans k3, h3.trans k4, by rw [h4, HWAS.out]⟩
        · refine Or.inl ?_
          rw [h4, h1, h2, h3]
          exact k1.since hB4.out
    clear hB4 hO4
    go_wp2_with fail
    go_ret2
    exact ⟨_, _, _, rfl, S4, HO4⟩
end
end
end Go.Proofs.Ytfidamiomnohcaa
