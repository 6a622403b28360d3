/- HeadTells answers true, for all bytes and heads. Conditions: what the listed variables hold; the slices' cells. -/
import Derived.Test.YticjdjffmagdkaaDoorRefRead
import Derived.Test.YticjdjffmagdkaaDoorHeadLaw
set_option linter.unusedVariables false
set_option linter.unusedSimpArgs false
namespace Go.Proofs.YticjdjffmagdkaaDoor
open Go.RowKit Go.Sort

/- what a reading answers, part by part -/
def dOf : Hd.Rd → List Nat
  | .valid ds _ => ds
  | _ => []
def kOf : Hd.Rd → Int
  | .valid _ h => (h.k : Int)
  | _ => 0
def aOf : Hd.Rd → Int
  | .valid _ h => (h.a : Int)
  | _ => 0
def qOf : Hd.Rd → Int
  | .valid _ h => (h.s : Int)
  | _ => 0
def gOf : Hd.Rd → Int
  | .valid _ h => (h.g : Int)
  | _ => 0
def tOf : Hd.Rd → Int
  | .valid _ _ => 1
  | .torn => 2
  | .erased => 0
theorem rout_form {w w' : World} {r : Hd.Rd} {e : Ending} (h : ROut w r e w') : ∃ A n c, e = .returned (.tuple #[.slice A n c, .agg #[.int .i64 (kOf r), .int .u64 (aOf r), .int .i64 (qOf r), .int .i64 (gOf r)], .int .i64 (tOf r)]) ∧ Hid (Own w' w.heap.size A n c (dOf r)) ∧ Hid (Below w.heap.size w w') := by
  cases r with
  | torn => exact ⟨none, 0, 0, h.1, Own.none_, h.2⟩
  | erased => exact ⟨none, 0, 0, h.1, Own.none_, h.2⟩
  | valid ds hd =>
    obtain ⟨A, n, c, K, A', S, G, rfl, ho, he, hb⟩ := h
    obtain ⟨rfl, rfl, rfl, rfl⟩ := he.out
    exact ⟨A, n, c, rfl, ho, hb⟩
theorem dOf_len {bs : List Nat} {r : Hd.Rd} (h : Hd.Reads bs r) : (dOf r).length ≤ bs.length := by
  cases r with
  | torn => simp [dOf]
  | erased => simp [dOf]
  | valid ds hd =>
    obtain ⟨_, _, rfl⟩ := h
    rw [Hd.page_len]
    show ds.length ≤ _
    omega
theorem layO_len {bs : List Nat} {K A S G : Int} : ((layO bs K A S G).getD []).length ≤ bs.length + 28 := by
  unfold layO
  split
  · show (Hd.page _ _).length ≤ _
    rw [Hd.page_len]; omega
  · simp
def numO (o : Option (List Nat)) : Int := if o.isSome then 0 else 2
theorem num_out {o : Option (List Nat)} {y : Value} {w : World} (h : OutE o y w) : Calls Tryd.prog 15 #[y] w fun e w' => e = .returned (.int .i64 (numO o)) ∧ w = w' := by
  cases o with
  | none => exact num_bad y w h
  | some ps =>
    obtain rfl : y = .nilIface := h
    exact num_nil w
set_option maxHeartbeats 8000000 in
theorem tells_short (A : Option Addr) (n c : Nat) (bs : List Nat) (K A' S G : Int) (B : Option Addr) (m d : Nat) (cs : List Nat) (w : World) (hT : Tabs w) (hW : Wid w) (hn : ¬ 400 < n) (hm : ¬ 400 < m) (hd : m ≤ d) (hA : Bytes w w.heap.size A n bs) (hB : Bytes w w.heap.size B m cs) (a0 : 0 ≤ A') (a1 : A' ≤ 18446744073709551615) :
    Calls Tryd.prog 3 #[.slice A n c, .agg #[.int .i64 K, .int .u64 A', .int .i64 S, .int .i64 G], .slice B m d] w fun e w' => e = .returned (.bool true) ∧ Below w.heap.size w w' := by
  have HT := Lib.hid hT
  have HW := Lib.hid hW
  have HA := Lib.hid hA
  have HB := Lib.hid hB
  have HD := Lib.hid hd
  have S1 := Lib.hid (since_alloc (Below.refl w.heap.size w) (.cells #[.int .i64 K, .int .u64 A', .int .i64 S, .int .i64 G] 25))
  have HH1 := Lib.hid (headAt_new w K A' S G 25)
  have hn9 : n ≤ 900 := by omega
  have hm9 : m ≤ 900 := by omega
  clear hT hW hA hB hd
  go_enter Tryd.func3, Tryd.ntmps3
  go_wp2_with fail
  obtain ⟨W1, HW1⟩ : ∃ W1, Hid (W1 = w.alloc (.cells #[.int .i64 K, .int .u64 A', .int .i64 S, .int .i64 G] 25)) := ⟨_, rfl⟩
  rw [← HW1.out] at S1 HH1 ⊢
  clear HW1
  refine (lend_any A n c bs _ hn9 (HA.out.since S1.out)).mono ?_
  rintro e W2 ⟨rfl, hL⟩
  have L2 := Lib.hid hL
  have S2 := Lib.hid (below_chain S1.out hL.below)
  have H2 := Lib.hid (HH1.out.since hL.below)
  clear hL
  go_wp2_with fail
  refine (lend_any B m d cs _ hm9 (HB.out.since S2.out)).mono ?_
  rintro e W3 ⟨rfl, hM⟩
  have M3 := Lib.hid hM
  have L3 := Lib.hid (L2.out.since hM.below)
  have S3 := Lib.hid (below_chain S2.out hM.below)
  have H3 := Lib.hid (H2.out.since hM.below)
  have HZ23 : Hid (W1.heap.size < W3.heap.size ∧ W2.heap.size < W3.heap.size) := ⟨L3.out.lt, M3.out.lt⟩
  clear hM H2 S2 L2 HH1 S1
  obtain ⟨k0, k1, k2, k3⟩ := H3.out
  obtain ⟨o, HO⟩ : ∃ o, Hid (o = layO bs K A' S G) := ⟨_, rfl⟩
  have HOL : Hid ((o.getD []).length ≤ 500) := by
    rw [HO.out]
    have h1 := layO_len (bs := bs) (K := K) (A := A') (S := S) (G := G)
    have h2 := HA.out.len
    show _ ≤ _
    omega
  go_wp2_with fail
  refine (lay_any _ n (n + 3) bs K A' S G _ (HT.out.since S3.out) (HW.out.since S3.out) hn9 (L3.out.bytes L3.out.lt HA.out.len HA.out.small) a0 a1).mono ?_
  rw [← HO.out]
  rintro e W4 ⟨v, rfl, ⟨x1, y1, rfl, hs1, he1⟩, hb4⟩
  obtain ⟨A1, n1, c1, rfl, ho1⟩ := hs1.slice
  have hn1 : n1 ≤ 500 := by rw [← ho1.len]; exact HOL.out
  have O1 := Lib.hid ho1
  have E1 := Lib.hid he1
  have S34 := hb4
  have S4 := Lib.hid (below_chain S3.out hb4.out)
  have H4 := Lib.hid (H3.out.since hb4.out)
  clear k0 k1 k2 k3 hs1 he1 ho1 hb4 H3
  obtain ⟨k0, k1, k2, k3⟩ := H4.out
  go_wp2_with fail
  refine (reflay_any A n c bs K A' S G _ hn9 (HA.out.since S4.out) a0 a1).mono ?_
  rw [← HO.out]
  rintro e W5 ⟨v, rfl, ⟨x2, y2, rfl, hs2, he2⟩, hb5⟩
  obtain ⟨A2, n2, c2, rfl, ho2⟩ := hs2.slice
  obtain rfl : n1 = n2 := by rw [← ho2.len, O1.out.len]
  obtain ⟨f, HFN⟩ : ∃ f : Int, Hid (numO o = f) := ⟨_, rfl⟩
  have hy2 : y2 = .int .i64 f := by rw [← HFN.out]; exact he2
  subst hy2
  have O2 := Lib.hid ho2
  have S5 := Lib.hid (below_chain S4.out hb5.out)
  have S35 := Lib.hid (below_chain S34.out hb5.out)
  have H5 := Lib.hid (H4.out.since hb5.out)
  have O15 := Lib.hid (O1.out.since hb5.out)
  have E15 := Lib.hid (outE_later E1.out hb5.out)
  have HZ4 : Hid (∀ b, (Value.slice A1 n1 c1).ownBlock = some b → b < W4.heap.size) := O1.out.block_lt
  have HZ45 : Hid (W4.heap.size ≤ W5.heap.size) := hb5.out.size
  have HZ34 : Hid (W3.heap.size ≤ W4.heap.size) := S34.out.size
  clear k0 k1 k2 k3 hs2 he2 ho2 hb5 H4 O1 E1 S4 S34 HO
  have M5 := Lib.hid (M3.out.since S35.out)
  go_wp2_with fail
  refine (read_any _ m (m + 3) cs _ (HT.out.since S5.out) (HW.out.since S5.out) hm9 (by omega) (M5.out.bytes M5.out.lt HB.out.len HB.out.small)).mono ?_
  rintro e W6 ⟨r, HR, hr⟩
  obtain ⟨A3, n3, c3, rfl, ho3, hb6⟩ := rout_form hr
  have HRR := Lib.hid HR
  obtain ⟨ds, HDS⟩ : ∃ ds, Hid (dOf r = ds) := ⟨_, rfl⟩
  obtain ⟨rk, HRK⟩ : ∃ x, Hid (kOf r = x) := ⟨_, rfl⟩
  obtain ⟨ra, HRA⟩ : ∃ x, Hid (aOf r = x) := ⟨_, rfl⟩
  obtain ⟨rq, HRQ⟩ : ∃ x, Hid (qOf r = x) := ⟨_, rfl⟩
  obtain ⟨rg, HRG⟩ : ∃ x, Hid (gOf r = x) := ⟨_, rfl⟩
  obtain ⟨rt, HRT⟩ : ∃ x, Hid (tOf r = x) := ⟨_, rfl⟩
  rw [HRK.out, HRA.out, HRQ.out, HRG.out, HRT.out]
  rw [HDS.out] at ho3
  have hn3 : n3 ≤ 500 := by
    have h1 := dOf_len HR
    rw [HDS.out, HB.out.len] at h1
    rw [← ho3.out.len]; omega
  have S7 := Lib.hid (since_alloc (below_chain S5.out hb6.out) (.cells #[.int .i64 rk, .int .u64 ra, .int .i64 rq, .int .i64 rg] 25))
  have T7 := Lib.hid ((hb6.out).alloc hb6.out.size (.cells #[.int .i64 rk, .int .u64 ra, .int .i64 rq, .int .i64 rg] 25))
  have J7 := Lib.hid (headAt_new W6 rk ra rq rg 25)
  have O37 := Lib.hid (ho3.out.since (later_alloc W6 (.cells #[.int .i64 rk, .int .u64 ra, .int .i64 rq, .int .i64 rg] 25)))
  clear HR hr ho3 hb6 S5 M5
  obtain ⟨W7, HW7⟩ : ∃ W, Hid (W = W6.alloc (.cells #[.int .i64 rk, .int .u64 ra, .int .i64 rq, .int .i64 rg] 25)) := ⟨_, rfl⟩
  go_wp2_with fail
  rw [← HW7.out] at S7 T7 J7 O37 ⊢
  clear HW7
  have S37 := Lib.hid (below_chain S35.out T7.out)
  have H7 := Lib.hid (H5.out.since T7.out)
  have O17 := Lib.hid (O15.out.since T7.out)
  have O27 := Lib.hid (O2.out.since T7.out)
  have E17 := Lib.hid (outE_later E15.out T7.out)
  have HZ57 : Hid (W5.heap.size ≤ W7.heap.size) := T7.out.size
  clear H5 O15 O2 E15 S35 T7
  refine (refread_any B m d cs _ hm9 HD.out (HB.out.since S7.out)).mono ?_
  rintro e W8 ⟨r', HR', hr'⟩
  obtain rfl : r = r' := HRR.out.one HR'
  obtain ⟨A4, n4, c4, rfl, ho4, hb8⟩ := rout_form hr'
  rw [HRK.out, HRA.out, HRQ.out, HRG.out, HRT.out]
  rw [HDS.out] at ho4
  obtain rfl : n3 = n4 := by rw [← ho4.out.len, O37.out.len]
  have S9 := Lib.hid (since_alloc (below_chain S7.out hb8.out) (.cells #[.int .i64 rk, .int .u64 ra, .int .i64 rq, .int .i64 rg] 25))
  have T9 := Lib.hid ((hb8.out).alloc hb8.out.size (.cells #[.int .i64 rk, .int .u64 ra, .int .i64 rq, .int .i64 rg] 25))
  have J9' := Lib.hid (headAt_new W8 rk ra rq rg 25)
  have O49 := Lib.hid (ho4.out.since (later_alloc W8 (.cells #[.int .i64 rk, .int .u64 ra, .int .i64 rq, .int .i64 rg] 25)))
  clear HR' hr' ho4 hb8 S7
  obtain ⟨W9, HW9⟩ : ∃ W, Hid (W = W8.alloc (.cells #[.int .i64 rk, .int .u64 ra, .int .i64 rq, .int .i64 rg] 25)) := ⟨_, rfl⟩
  go_wp2_with fail
  rw [← HW9.out] at S9 T9 J9' O49 ⊢
  clear HW9 HRK HRA HRQ HRG HRT
  have S39 := Lib.hid (below_chain S37.out T9.out)
  have H9 := Lib.hid (H7.out.since T9.out)
  have J9 := Lib.hid (J7.out.since T9.out)
  have O19 := Lib.hid (O17.out.since T9.out)
  have O29 := Lib.hid (O27.out.since T9.out)
  have O39 := Lib.hid (O37.out.since T9.out)
  have E19 := Lib.hid (outE_later E17.out T9.out)
  have HZ79 : Hid (W7.heap.size ≤ W9.heap.size) := T9.out.size
  clear H7 J7 O17 O27 O37 E17 S37 T9
  have i0 := cell_regrown H9.out.k
  have i1 := cell_regrown H9.out.a
  have i2 := cell_regrown H9.out.s
  have i3 := cell_regrown H9.out.g
  have p0 := cell_regrown J9.out.k
  have p1 := cell_regrown J9.out.a
  have p2 := cell_regrown J9.out.s
  have p3 := cell_regrown J9.out.g
  have q0 := cell_regrown J9'.out.k
  have q1 := cell_regrown J9'.out.a
  have q2 := cell_regrown J9'.out.s
  have q3 := cell_regrown J9'.out.g
  have hq0 : ∀ W : World, (binOp .eql 25 (.agg #[.int .i64 rk, .int .u64 ra, .int .i64 rq, .int .i64 rg]) (.agg #[.int .i64 rk, .int .u64 ra, .int .i64 rq, .int .i64 rg])).run Tryd.prog W = .ok (.bool true) W := fun W => by
    have := run_eql_head rk ra rq rg rk ra rq rg W
    rwa [headB_self] at this
  obtain ⟨b, HBM⟩ : ∃ b, Hid (mayB K A' S G = b) := ⟨_, rfl⟩
  have cM := Lib.hid (regrown_may (W := W9) HBM.out)
  have cR := Lib.hid fun (d : Nat) (os : Array Obj) => (regrown_bool (refmay_any K A' S G (grow (redrawn W9 d) os)))
  rw [HBM.out] at cR
  have cS := Lib.hid (regrown_same (b := true) (c := c1) (c' := c2) (by omega) (by omega) O19.out.bytes O29.out.bytes (decide_eq_true rfl))
  have cD := Lib.hid (regrown_same (b := true) (c := c3) (c' := c4) (by omega) (by omega) O39.out.bytes O49.out.bytes (decide_eq_true rfl))
  have cN := Lib.hid fun (d : Nat) (os : Array Obj) => Calls.regrown_of ((num_out (outE_later E19.out (below_regrown W9 d os))).mono fun e w' h => ⟨h.1, h.2 ▸ Below.refl _ _⟩)
  rw [HFN.out] at cN
  rcases b with _ | _
  all_goals
    refine wp_region_quiet_below (by kernel_rfl) (by kernel_rfl) ?_
    repeat (go_big_quiet_step (first | (go_at_call 15; exact cN.out _ _) | (go_at_call_of 14 (Value.slice A1 n1 c1); exact cS.out _ _) | (go_at_call_of 14 (Value.slice A3 n3 c3); exact cD.out _ _) | (go_at_call 16; exact cM.out _ _) | (go_at_call 17; exact cR.out _ _)))
    refine wpQuiet_nil ?_
    intro W10 hw'
    obtain ⟨⟨dq, osq⟩, hw''⟩ := hw'
    have T10 : Hid (Below W9.heap.size W9 W10) := by rw [hw'']; exact below_regrown W9 dq osq
    clear hw'' i0 i1 i2 i3 p0 p1 p2 p3 q0 q1 q2 q3 hq0 cM cR cS cD cN
    have S310 := Lib.hid (below_chain S39.out T10.out)
    have O1a := Lib.hid (O19.out.since T10.out)
    have O3a := Lib.hid (O39.out.since T10.out)
    have HZ310 : Hid (W3.heap.size ≤ W10.heap.size ∧ W5.heap.size ≤ W10.heap.size) := ⟨S310.out.size, by
      have h1 := HZ57.out
      have h2 := T10.out.size
      have h3 : W7.heap.size ≤ W9.heap.size := HZ79.out
      omega⟩
    go_wp2_with fail
    refine (over_any A1 n1 c1 W3.heap.size _ _ (by omega) HZ310.out.1 O1a.out).mono ?_
    rintro e W11 ⟨rfl, hg11⟩
    have S311 := Lib.hid (S310.out.trans (O1a.out.elsewhere hg11 (Nat.le_refl _) HZ310.out.1))
    have O3b := Lib.hid (O3a.out.kept hg11 (fun b hb => by have := HZ4.out b hb; have := HZ45.out; omega))
    have HZ11 : Hid (W10.heap.size ≤ W11.heap.size) := hg11.size
    clear hg11
    go_wp2_with fail
    refine (over_any A3 n3 c3 W5.heap.size _ _ (by omega) (by have := HZ310.out; have := HZ11.out; omega) O3b.out).mono ?_
    rintro e W12 ⟨rfl, hg12⟩
    have S312 := Lib.hid (S311.out.trans (O3b.out.elsewhere hg12 (by have := HZ34.out; have := HZ45.out; omega) (by have := HZ310.out; have := HZ11.out; omega)))
    have S12 := Lib.hid (below_chain S3.out S312.out)
    clear hg12
    go_wp2_with fail
    refine (kept_since A n c bs W1 _ hn9 (L3.out.since S312.out) HA.out.len HA.out.small (HA.out.since S12.out)).mono ?_
    rintro e W13 ⟨rfl, hb13⟩
    have S313 := Lib.hid (S312.out.trans (hb13.mono S312.out.size))
    have S13 := Lib.hid (below_chain S12.out hb13)
    clear hb13
    go_wp2_with fail
    refine (kept_since B m d cs W2 _ hm9 (M3.out.since S313.out) HB.out.len HB.out.small (HB.out.since S13.out)).mono ?_
    rintro e W14 ⟨rfl, hb14⟩
    have S14 := Lib.hid (below_chain S13.out hb14)
    clear hb14
    go_wp2_with fail
    refine (awake_any _ (HT.out.since S14.out) (HW.out.since S14.out)).mono ?_
    rintro e W15 ⟨rfl, hb15⟩
    have S15 := Lib.hid (below_chain S14.out hb15.out)
    go_wp2_with fail
    go_ret
    exact ⟨rfl, S15.out⟩
set_option maxHeartbeats 1000000 in
theorem tells_long (A : Option Addr) (n c : Nat) (K A' S G : Int) (B : Option Addr) (m d : Nat) (w : World) (hT : Tabs w) (hW : Wid w) (hl : 400 < n ∨ (¬ 400 < n ∧ 400 < m)) :
    Calls Tryd.prog 3 #[.slice A n c, .agg #[.int .i64 K, .int .u64 A', .int .i64 S, .int .i64 G], .slice B m d] w fun e w' => e = .returned (.bool true) ∧ Below w.heap.size w w' := by
  have S1 := Lib.hid (since_alloc (Below.refl w.heap.size w) (.cells #[.int .i64 K, .int .u64 A', .int .i64 S, .int .i64 G] 25))
  have HT := Lib.hid hT
  have HW := Lib.hid hW
  clear hT hW
  rcases hl with hl | ⟨hl, hl2⟩
  all_goals
    go_enter Tryd.func3, Tryd.ntmps3
    go_wp2_with fail
    refine (awake_any _ (HT.out.since S1.out) (HW.out.since S1.out)).mono ?_
    rintro e W7 ⟨rfl, hb7⟩
    have S7 := Lib.hid (S1.out.trans (hb7.out.mono (by simp)))
    go_wp2_with fail
    go_ret
    exact ⟨rfl, S7.out⟩
theorem tells_law (A : Option Addr) (n c : Nat) (bs : List Nat) (K A' S G : Int) (B : Option Addr) (m d : Nat) (cs : List Nat) (w : World) (hT : Tabs w) (hW : Wid w) (hd : m ≤ d) (hA : Bytes w w.heap.size A n bs) (hB : Bytes w w.heap.size B m cs) (a0 : 0 ≤ A') (a1 : A' ≤ 18446744073709551615) :
    Calls Tryd.prog 3 #[.slice A n c, .agg #[.int .i64 K, .int .u64 A', .int .i64 S, .int .i64 G], .slice B m d] w fun e w' => e = .returned (.bool true) ∧ Below w.heap.size w w' := by
  by_cases h1 : 400 < n
  · exact tells_long A n c K A' S G B m d w hT hW (Or.inl h1)
  · by_cases h2 : 400 < m
    · exact tells_long A n c K A' S G B m d w hT hW (Or.inr ⟨h1, h2⟩)
    · exact tells_short A n c bs K A' S G B m d cs w hT hW h1 h2 hd hA hB a0 a1
end Go.Proofs.YticjdjffmagdkaaDoor
