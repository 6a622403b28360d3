/- HeadMixed answers true, for all numbers and heads. Conditions: what the listed variables hold. -/
import Derived.Test.YticjdjffmagdkaaDoorLawBack
set_option linter.unusedVariables false
set_option linter.unusedSimpArgs false
namespace Go.Proofs.YticjdjffmagdkaaDoor
open Go.RowKit Go.Sort

/-- The data of one page with the head of another one. -/
def mixedL (xs ys : List Nat) (h : Hd.H) : List Nat := xs ++ (Hd.tail h ++ (Pk.fix (Hd.crc (Hd.body ys h)) 4 ++ [0]))
theorem mixed_len (xs ys : List Nat) (h : Hd.H) : (mixedL xs ys h).length = xs.length + 28 := by unfold mixedL; simp [Hd.tail_len, Pk.fix_len]
theorem mixed_take (xs ys : List Nat) (h : Hd.H) : (mixedL xs ys h).take (xs.length + 23) = Hd.body xs h := by
  unfold mixedL Hd.body
  rw [← List.append_assoc]
  exact Hd.take_app _ _ _ (by rw [List.length_append, Hd.tail_len])
theorem mixed_valid {xs ys : List Nat} {h : Hd.H} (k : Hd.Ok h) (f : Hd.fits xs.length) (e : Hd.crc (Hd.body xs h) = Hd.crc (Hd.body ys h)) : Hd.Reads (mixedL xs ys h) (.valid xs h) := by
  refine ⟨k, f, ?_⟩
  unfold mixedL Hd.page
  rw [← e, show Hd.body xs h = xs ++ Hd.tail h from rfl, List.append_assoc]
theorem mixed_torn {xs ys : List Nat} {h : Hd.H} (k : Hd.Ok h) (f : Hd.fits xs.length) (hl : xs.length = ys.length) (e : Hd.crc (Hd.body xs h) ≠ Hd.crc (Hd.body ys h)) : Hd.Reads (mixedL xs ys h) .torn := by
  have hlen := mixed_len xs ys h
  refine ⟨?_, fun hk => ?_⟩
  · rintro ⟨ds, h', k', f', e'⟩
    have hl' := congrArg List.length e'
    rw [hlen, Hd.page_len] at hl'
    have hx : ds.length = xs.length := by omega
    have hb : Hd.body xs h = Hd.body ds h' := by
      have := congrArg (List.take (xs.length + 23)) e'
      rw [mixed_take, ← hx, Hd.page_body] at this
      exact this
    have hs : Hd.crc (Hd.body ys h) = Hd.crc (Hd.body ds h') := by
      have h1 := congrArg (fun l => Pk.unfix ((l.drop (xs.length + 23)).take 4)) e'
      have h2 : (mixedL xs ys h).drop (xs.length + 23) = Pk.fix (Hd.crc (Hd.body ys h)) 4 ++ [0] := by
        unfold mixedL
        rw [← List.append_assoc]
        exact Hd.drop_app _ _ _ (by rw [List.length_append, Hd.tail_len])
      rw [h2, ← hx, Hd.page_sum, Hd.take_app _ _ 4 (Pk.fix_len _ _), Hd.take_app _ _ 4 (Pk.fix_len _ _), Hd.unfix_fix_lt (by have := Hd.crc_lt (Hd.body ys h); omega), Hd.unfix_fix_lt (by have := Hd.crc_lt (Hd.body ds h'); omega)] at h1
      exact h1
    exact e (by rw [hs, hb])
  · have := hk.2 0 (by unfold mixedL; simp)
    omega
def swapL (us : List Nat) (p : Nat) : List Nat := (us.set p (us.getD (p + 1) 0)).set (p + 1) (us.getD p 0)
theorem swap_getD (us : List Nat) (p k : Nat) (hp : p + 1 < us.length) : (swapL us p).getD k 0 = if k = p + 1 then us.getD p 0 else if k = p then us.getD (p + 1) 0 else us.getD k 0 := by
  unfold swapL
  rw [getD_set_ _ _ _ _ (by rw [List.length_set]; exact hp), getD_set_ _ _ _ _ (by omega)]
  by_cases h1 : k = p + 1
  · rw [if_pos h1.symm, if_pos h1]
  · rw [if_neg (fun e : p + 1 = k => h1 e.symm), if_neg h1]
    by_cases h2 : k = p
    · rw [if_pos h2.symm, if_pos h2]
    · rw [if_neg (fun e : p = k => h2 e.symm), if_neg h2]
theorem swap_same {us : List Nat} {p : Nat} (h : us.getD p 0 = us.getD (p + 1) 0) : swapL us p = us := by
  unfold swapL
  rw [← h, set_same, h, set_same]
theorem swap_torn {ds : List Nat} {h : Hd.H} {p : Nat} (k : Hd.Ok h) (f : Hd.fits ds.length) (hd : ∀ b ∈ ds, b < 256) (hp : p + 1 < ds.length + 28) (hne : (Hd.page ds h).getD p 0 ≠ (Hd.page ds h).getD (p + 1) 0) : Hd.Reads (swapL (Hd.page ds h) p) .torn := by
  have hlen := Hd.page_len ds h
  have hget := fun j => swap_getD (Hd.page ds h) p j (by omega)
  have hsl : (swapL (Hd.page ds h) p).length = ds.length + 28 := by unfold swapL; rw [List.length_set, List.length_set, hlen]
  refine ⟨?_, fun hk => ?_⟩
  · rintro ⟨ds', h', k', f', e⟩
    have hl := congrArg List.length e
    rw [hsl, Hd.page_len] at hl
    by_cases hp22 : p = ds.length + 22
    · have h1 := Hd.page_zero ds h 5 (by omega)
      have h2 := Hd.page_zero ds' h' 5 (by omega)
      rw [← e, show ds'.length + 17 + 5 = p by omega, hget, if_neg (by omega), if_pos rfl] at h2
      rw [show ds.length + 17 + 5 = p by omega] at h1
      exact hne (h1.trans h2.symm)
    · have hbb := Hd.byte_list (Hd.page_byte hd h)
      have hb' : ∀ b ∈ ds', b < 256 := page_part (by
        rw [← e]
        unfold swapL
        exact set_byte (set_byte (Hd.page_byte hd h) (hbb _)) (hbb _))
      have he : Hd.page ds h = Hd.page ds' h' := Hd.two_pages (i := p) hd hb' (by omega) hp22 fun j h1 h2 => by
        rw [← e, hget, if_neg h2, if_neg h1]
      have := hget p
      rw [if_neg (by omega), if_pos rfl, e, ← he] at this
      exact hne this
  · have hz : ∃ j, j < ds.length + 28 ∧ j ≠ p ∧ j ≠ p + 1 ∧ (Hd.page ds h).getD j 0 = 0 := by
      by_cases h1 : p = ds.length + 16 ∨ p = ds.length + 17
      · exact ⟨ds.length + 17 + 2, by omega, by omega, by omega, Hd.page_zero _ _ 2 (by omega)⟩
      · exact ⟨ds.length + 17 + 0, by omega, by omega, by omega, Hd.page_zero _ _ 0 (by omega)⟩
    obtain ⟨j, j1, j2, j3, j4⟩ := hz
    have e := hget j
    rw [if_neg j3, if_neg j2, j4] at e
    have hkl : j < (swapL (Hd.page ds h) p).length := by rw [hsl]; exact j1
    rw [List.getD_eq_getElem?_getD, List.getElem?_eq_getElem hkl] at e
    have := hk.2 _ (List.getElem_mem hkl)
    simp only [Option.getD_some] at e
    omega
theorem parts_one {W : World} {A : Option Addr} {n c g : Nat} {bs : List Nat} (hn : n ≤ 900) (hc : W.cell? ⟨g, 0, none⟩ = some (.slice A n c)) (hA : Bytes W W.heap.size A n bs) : Parts W W.heap.size (some ⟨g, 0, none⟩) 1 [bs] :=
  ⟨rfl, fun k hk => by
    obtain rfl : k = 0 := by omega
    exact ⟨_, A, n, c, rfl, World.block_lt_of_cell? W _ hc, by rw [add_none]; exact hc, by omega, hA⟩⟩
theorem read_mixed {bs xs : List Nat} {h : Hd.H} {bf : Bool} (hr : (bf = true ∧ Hd.Reads bs (.valid xs h)) ∨ (bf = false ∧ Hd.Reads bs .torn)) (A : Option Addr) (n c : Nat) (w : World) (hT : Tabs w) (hW : Wid w) (hn : n ≤ 900) (hc : n ≤ c) (hA : Bytes w w.heap.size A n bs) :
    Calls Tryd.prog 12 #[.slice A n c] w fun e w' => ∃ (B : Option Addr) (m c' : Nat) (K A' S G x : Int), e = .returned (.tuple #[.slice B m c', .agg #[.int .i64 K, .int .u64 A', .int .i64 S, .int .i64 G], .int .i64 x]) ∧ (x == 1) = bf ∧ Hid (Below w.heap.size w w') := by
  rcases hr with ⟨rfl, hr⟩ | ⟨rfl, hr⟩
  · refine (read_as _ A n c bs w hT hW hn hc hA hr).mono ?_
    rintro e w' ⟨B, m, c', K, A', S, G, rfl, ho, he, hb⟩
    exact ⟨B, m, c', K, A', S, G, 1, rfl, rfl, hb⟩
  · refine (read_as _ A n c bs w hT hW hn hc hA hr).mono ?_
    rintro e w' ⟨rfl, hb⟩
    exact ⟨none, 0, 0, 0, 0, 0, 0, 2, rfl, rfl, hb⟩
theorem run_eql_u32 (x y : Operand) (p q : Int) (b : Bool) (h : (p == q) = b) (w : World) : (do eqGuard .eql 45 x y (.int .u32 p) (.int .u32 q); binOp .eql 45 (.int .u32 p) (.int .u32 q)).run Tryd.prog w = .ok (.bool b) w := by
  subst h
  go_simp
set_option maxHeartbeats 8000000 in
theorem mixed_law (x y yy K A S G z : Int) (w : World) (hT : Tabs w) (hW : Wid w) (y0 : -9223372036854775808 ≤ y) (y1 : y ≤ 9223372036854775807) (z0 : -9223372036854775808 ≤ yy) (z1 : yy ≤ 9223372036854775807) (a0 : 0 ≤ A) (a1 : A ≤ 18446744073709551615) :
    Calls Tryd.prog 7 #[.int .i64 x, .int .i64 y, .int .i64 yy, .agg #[.int .i64 K, .int .u64 A, .int .i64 S, .int .i64 G], .int .i64 z] w fun e w' => e = .returned (.bool true) ∧ Below w.heap.size w w' := by
  have HT := Lib.hid hT
  have HW := Lib.hid hW
  obtain ⟨q, N, hq, q0, q1, HN, N0, N1⟩ := size_of x
  have HQ := Lib.hid hq
  obtain ⟨b, HB⟩ : ∃ b, Hid (mayB K A S G = b) := ⟨_, rfl⟩
  obtain ⟨xs, HX⟩ : ∃ l, Hid (fillL y N = l) := ⟨_, rfl⟩
  have HXL : Hid (xs.length = N) := by rw [← HX.out]; exact fillL_len y N
  have HXB : Hid (∀ b ∈ xs, b < 256) := by rw [← HX.out]; exact fillL_byte y N
  obtain ⟨ys, HY⟩ : ∃ l, Hid (fillL yy N = l) := ⟨_, rfl⟩
  have HYL : Hid (ys.length = N) := by rw [← HY.out]; exact fillL_len yy N
  obtain ⟨o, HO⟩ : ∃ o, Hid (o = layO xs K A S G) := ⟨_, rfl⟩
  have HO2 : Hid (o = if b = true then some (Hd.page xs (hN K A S G)) else none) := by rw [HO.out, layO_may (by rw [← HX.out]; exact fill_data N0 N1), HB.out]; rfl
  obtain ⟨o2, HO3⟩ : ∃ o, Hid (o = layO ys K A S G) := ⟨_, rfl⟩
  have HO4 : Hid (o2 = if b = true then some (Hd.page ys (hN K A S G)) else none) := by rw [HO3.out, layO_may (by rw [← HY.out]; exact fill_data N0 N1), HB.out]; rfl
  have S1' := Lib.hid (since_alloc (Below.refl w.heap.size w) (.cells #[.int .i64 K, .int .u64 A, .int .i64 S, .int .i64 G] 25))
  have HH1 := Lib.hid (headAt_new w K A S G 25)
  clear hT hW hq
  go_enter Tryd.func7, Tryd.ntmps7
  go_wp2_with fail
  obtain ⟨W1, HW1⟩ : ∃ W1, Hid (W1 = w.alloc (.cells #[.int .i64 K, .int .u64 A, .int .i64 S, .int .i64 G] 25)) := ⟨_, rfl⟩
  rw [← HW1.out] at S1' HH1 ⊢
  clear HW1
  refine (low_any x 129 (by omega) (by omega) _).mono ?_
  rw [HQ.out]
  rintro e W2 ⟨rfl, rfl⟩
  go_wp2_with fail
  rw [HN.out]
  obtain ⟨W0, HDW0⟩ : ∃ W0, Hid (W0 = W1.drew) := ⟨_, rfl⟩
  have S0 : Hid (Below w.heap.size w W0) := by rw [HDW0.out]; exact S1'.out.drew
  have HH0 : Hid (HeadAt W0 w.heap.size K A S G) := by rw [HDW0.out]; exact ⟨HH1.out.k, HH1.out.a, HH1.out.s, HH1.out.g⟩
  have HT0 := Lib.hid (HT.out.since S0.out)
  have HW0 := Lib.hid (HW.out.since S0.out)
  refine region_of_steps2 (by kernel_rfl) (fact2Of [.is (.int .i64 y), .is (.int .i64 (N : Int)), .own W0.heap.size N xs, .is (.agg #[.int .i64 K, .int .u64 A, .int .i64 S, .int .i64 G]), .that (OutT OutE W0.heap.size o) (fun _ _ _ h k => outTE_later h k), .that (OutT OutE W0.heap.size o) (fun _ _ _ h k => outTE_later h k), .that (OutS W0.heap.size o) (fun _ _ _ h k => outS_later h k), .that (OutE o) (fun _ _ _ h k => outE_later h k), .that (OutS W0.heap.size o) (fun _ _ _ h k => outS_later h k), .that (OutE o) (fun _ _ _ h k => outE_later h k)]) (deadOf []) Calm (fun W => Below W0.heap.size W0 W ∧ W0.heap.size ≤ W.heap.size) (by kernel_rfl)
    (fun i j v w w' hm hd hn h hR => fact2_calm _ i j v w w' h hR) (fun j w w' h k => calm_inv h k) ⟨by rw [HDW0.out]; exact Below.refl _ _, by rw [HDW0.out]; exact Nat.le_refl _⟩ ?_ ?_
  · refine Steps2.cons ?_ (Steps2.cons ?_ (Steps2.cons ?_ (Steps2.cons ?_ (Steps2.cons ?_ (Steps2.cons ?_ (Steps2.cons ?_ (Steps2.cons ?_ (Steps2.cons ?_ (Steps2.cons ?_ (Steps2.nil))))))))))
    · intro listed a W H hw hl hd
      have t1 : a.tmps.getD 1 undef = .int .i64 y := (H.old 1 (by kernel_rfl)).trans rfl
      exact step2_value (i := 0) rfl rfl (run_op_move rfl t1) (calm_refl _) rfl
    · intro listed a W H hw hl hd
      have t0 : a.tmps.getD 0 undef = .int .i64 (N : Int) := (H.old 0 (by kernel_rfl)).trans rfl
      exact step2_value (i := 1) rfl rfl (run_op_move rfl t0) (calm_refl _) rfl
    · intro listed a W H hw hl hd
      have t28 : a.tmps.getD 28 undef = .int .i64 y := H.get 0 28 (by kernel_rfl) (dep_of hd 0 (by kernel_rfl)) (alive_none (by kernel_rfl))
      have t29 : a.tmps.getD 29 undef = .int .i64 (N : Int) := H.get 1 29 (by kernel_rfl) (dep_of hd 1 (by kernel_rfl)) (alive_none (by kernel_rfl))
      refine step2_call (i := 2) rfl rfl (run_op_call (vs := #[.int .i64 y, .int .i64 (N : Int)]) Tryd.func21 (by kernel_rfl) (by kernel_rfl) rfl (by simp only [List.map_toArray, List.map_cons, List.map_nil]; show #[a.tmps.getD 28 undef, a.tmps.getD 29 undef] = _; rw [t28, t29])) ?_
      refine (fill_any y (N : Int) N W rfl y0 y1 (by omega)).mono ?_
      rw [HX.out]
      rintro e W2 ⟨B, n2, c2, rfl, ho, hb⟩
      obtain rfl : N = n2 := by rw [← ho.len, ← HX.out, fillL_len]
      exact ⟨_, rfl, calm_later hb, B, c2, rfl, ho.elder hw.2⟩
    · intro listed a W H hw hl hd
      have t8 : a.tmps.getD 8 undef = .pointer (some ⟨w.heap.size, 0, none⟩) := (H.old 8 (by kernel_rfl)).trans rfl
      exact step2_value (i := 3) rfl rfl (run_op_load rfl t8 (run_load_head (HH0.out.since hw.1))) (calm_refl _) rfl
    · intro listed a W H hw hl hd
      obtain ⟨A30, q30, t30, o30⟩ := H.get 2 30 (by kernel_rfl) (dep_of hd 2 (by kernel_rfl)) (alive_none (by kernel_rfl))
      have t31 : a.tmps.getD 31 undef = .agg #[.int .i64 K, .int .u64 A, .int .i64 S, .int .i64 G] := H.get 3 31 (by kernel_rfl) (dep_of hd 3 (by kernel_rfl)) (alive_none (by kernel_rfl))
      refine step2_call (i := 4) rfl rfl (run_op_call (vs := #[.slice A30 N q30, .agg #[.int .i64 K, .int .u64 A, .int .i64 S, .int .i64 G]]) Tryd.func10 (by kernel_rfl) (by kernel_rfl) rfl (by simp only [List.map_toArray, List.map_cons, List.map_nil]; show #[a.tmps.getD 30 undef, a.tmps.getD 31 undef] = _; rw [t30, t31])) ?_
      refine (lay_any A30 N q30 xs K A S G W (HT0.out.since hw.1) (HW0.out.since hw.1) (by omega) o30.bytes a0 a1).mono ?_
      rw [← HO.out]
      rintro e W2 ⟨v, rfl, ho, hb⟩
      exact ⟨_, rfl, calm_later hb.out, ho.elder hw.2⟩
    · intro listed a W H hw hl hd
      have T32 : (OutT OutE W0.heap.size o) (a.tmps.getD 32 undef) W := H.get 4 32 (by kernel_rfl) (dep_of hd 4 (by kernel_rfl)) (alive_none (by kernel_rfl))
      exact step2_value (i := 5) rfl rfl (run_op_move rfl rfl) (calm_refl _) T32
    · intro listed a W H hw hl hd
      have T27 : (OutT OutE W0.heap.size o) (a.tmps.getD 27 undef) W := H.get 5 27 (by kernel_rfl) (dep_of hd 5 (by kernel_rfl)) (alive_none (by kernel_rfl))
      obtain ⟨x33, y33, e33, s33, z33⟩ := T27
      exact step2_value (i := 6) rfl rfl (run_op_extract rfl e33 rfl) (calm_refl _) s33
    · intro listed a W H hw hl hd
      have T27 : (OutT OutE W0.heap.size o) (a.tmps.getD 27 undef) W := H.get 5 27 (by kernel_rfl) (dep_of hd 5 (by kernel_rfl)) (alive_none (by kernel_rfl))
      obtain ⟨x34, y34, e34, s34, z34⟩ := T27
      exact step2_value (i := 7) rfl rfl (run_op_extract rfl e34 rfl) (calm_refl _) z34
    · intro listed a W H hw hl hd
      have T33 : (OutS W0.heap.size o) (a.tmps.getD 33 undef) W := H.get 6 33 (by kernel_rfl) (dep_of hd 6 (by kernel_rfl)) (alive_none (by kernel_rfl))
      exact step2_value (i := 8) rfl rfl (run_op_assign rfl rfl) (calm_refl _) T33
    · intro listed a W H hw hl hd
      have T34 : (OutE o) (a.tmps.getD 34 undef) W := H.get 7 34 (by kernel_rfl) (dep_of hd 7 (by kernel_rfl)) (alive_none (by kernel_rfl))
      exact step2_value (i := 9) rfl rfl (run_op_assign rfl rfl) (calm_refl _) T34
  · intro a WA hdef hsz hw hall hact
    have t11 : OutS W0.heap.size o (a.tmps.getD 11 undef) WA := hall 8 _ rfl (by kernel_rfl)
    have t12 : OutE o (a.tmps.getD 12 undef) WA := hall 9 _ rfl (by kernel_rfl)
    obtain ⟨ua, hu⟩ : ∃ u : Nat → Value, ∀ k, a.tmps.getD k undef = u k := ⟨_, fun _ => rfl⟩
    simp only [hu] at hact t11 t12
    have hact' : a = ([28, 29, 30, 31, 32, 27, 33, 34, 11, 12] : List Nat).foldl (fun b k => b.put (some k) (ua k)) _ := hact
    rw [HO2.out] at t11 t12
    rcases b with _ | _
    · have SA := Lib.hid (S0.out.trans (hw.1.mono S0.out.size))
      have HHA := Lib.hid (HH0.out.since hw.1)
      have HSZ0 : Hid (w.heap.size ≤ W0.heap.size) := S0.out.size
      obtain ⟨x12, h12⟩ := Bad.ne t12
      have h11 : ua 11 = .slice none 0 0 := t11
      simp only [List.foldl, h11, h12] at hact'
      simp only [Act.put, List.setIfInBounds_toArray, List.set_cons_succ, List.set_cons_zero] at hact'
      have HACT1 := Lib.hid hact'
      clear hu hact hact' t11 t12 h11 h12 hall hdef hsz
      rw [HACT1.out]
      clear HACT1
      clear hw S0 HH0 HT0 HW0 HDW0 HH1 S1'
      go_wp2_with fail
      obtain ⟨WB0, HDWB0⟩ : ∃ W, Hid (W = WA.drew) := ⟨_, rfl⟩
      have SB : Hid (Below w.heap.size w WB0) := by rw [HDWB0.out]; exact SA.out.drew
      have HHB : Hid (HeadAt WB0 w.heap.size K A S G) := by rw [HDWB0.out]; exact ⟨HHA.out.k, HHA.out.a, HHA.out.s, HHA.out.g⟩
      have HTB := Lib.hid (HT.out.since SB.out)
      have HWB := Lib.hid (HW.out.since SB.out)
      have HAB : Hid (Below WA.heap.size WA WB0) := by rw [HDWB0.out]; exact (Below.refl _ _).drew
      refine region_of_steps2 (by kernel_rfl) (fact2Of [.is (.int .i64 yy), .is (.int .i64 (N : Int)), .own WB0.heap.size N ys, .is (.agg #[.int .i64 K, .int .u64 A, .int .i64 S, .int .i64 G]), .that (OutT OutE WB0.heap.size o2) (fun _ _ _ h k => outTE_later h k), .that (OutT OutE WB0.heap.size o2) (fun _ _ _ h k => outTE_later h k), .that (OutS WB0.heap.size o2) (fun _ _ _ h k => outS_later h k), .that (OutE o2) (fun _ _ _ h k => outE_later h k), .that (OutS WB0.heap.size o2) (fun _ _ _ h k => outS_later h k), .that (OutE o2) (fun _ _ _ h k => outE_later h k)]) (deadOf []) Calm (fun W => Below WB0.heap.size WB0 W ∧ WB0.heap.size ≤ W.heap.size) (by kernel_rfl)
        (fun i j v w w' hm hd hn h hR => fact2_calm _ i j v w w' h hR) (fun j w w' h k => calm_inv h k) ⟨by rw [HDWB0.out]; exact Below.refl _ _, by rw [HDWB0.out]; exact Nat.le_refl _⟩ ?_ ?_
      · refine Steps2.cons ?_ (Steps2.cons ?_ (Steps2.cons ?_ (Steps2.cons ?_ (Steps2.cons ?_ (Steps2.cons ?_ (Steps2.cons ?_ (Steps2.cons ?_ (Steps2.cons ?_ (Steps2.cons ?_ (Steps2.nil))))))))))
        · intro listed a W H hw hl hd
          have t2 : a.tmps.getD 2 undef = .int .i64 yy := (H.old 2 (by kernel_rfl)).trans rfl
          exact step2_value (i := 0) rfl rfl (run_op_move rfl t2) (calm_refl _) rfl
        · intro listed a W H hw hl hd
          have t0 : a.tmps.getD 0 undef = .int .i64 (N : Int) := (H.old 0 (by kernel_rfl)).trans rfl
          exact step2_value (i := 1) rfl rfl (run_op_move rfl t0) (calm_refl _) rfl
        · intro listed a W H hw hl hd
          have t36 : a.tmps.getD 36 undef = .int .i64 yy := H.get 0 36 (by kernel_rfl) (dep_of hd 0 (by kernel_rfl)) (alive_none (by kernel_rfl))
          have t37 : a.tmps.getD 37 undef = .int .i64 (N : Int) := H.get 1 37 (by kernel_rfl) (dep_of hd 1 (by kernel_rfl)) (alive_none (by kernel_rfl))
          refine step2_call (i := 2) rfl rfl (run_op_call (vs := #[.int .i64 yy, .int .i64 (N : Int)]) Tryd.func21 (by kernel_rfl) (by kernel_rfl) rfl (by simp only [List.map_toArray, List.map_cons, List.map_nil]; show #[a.tmps.getD 36 undef, a.tmps.getD 37 undef] = _; rw [t36, t37])) ?_
          refine (fill_any yy (N : Int) N W rfl z0 z1 (by omega)).mono ?_
          rw [HY.out]
          rintro e W2 ⟨B, n2, c2, rfl, ho, hb⟩
          obtain rfl : N = n2 := by rw [← ho.len, ← HY.out, fillL_len]
          exact ⟨_, rfl, calm_later hb, B, c2, rfl, ho.elder hw.2⟩
        · intro listed a W H hw hl hd
          have t8 : a.tmps.getD 8 undef = .pointer (some ⟨w.heap.size, 0, none⟩) := (H.old 8 (by kernel_rfl)).trans rfl
          exact step2_value (i := 3) rfl rfl (run_op_load rfl t8 (run_load_head (HHB.out.since hw.1))) (calm_refl _) rfl
        · intro listed a W H hw hl hd
          obtain ⟨A38, q38, t38, o38⟩ := H.get 2 38 (by kernel_rfl) (dep_of hd 2 (by kernel_rfl)) (alive_none (by kernel_rfl))
          have t39 : a.tmps.getD 39 undef = .agg #[.int .i64 K, .int .u64 A, .int .i64 S, .int .i64 G] := H.get 3 39 (by kernel_rfl) (dep_of hd 3 (by kernel_rfl)) (alive_none (by kernel_rfl))
          refine step2_call (i := 4) rfl rfl (run_op_call (vs := #[.slice A38 N q38, .agg #[.int .i64 K, .int .u64 A, .int .i64 S, .int .i64 G]]) Tryd.func10 (by kernel_rfl) (by kernel_rfl) rfl (by simp only [List.map_toArray, List.map_cons, List.map_nil]; show #[a.tmps.getD 38 undef, a.tmps.getD 39 undef] = _; rw [t38, t39])) ?_
          refine (lay_any A38 N q38 ys K A S G W (HTB.out.since hw.1) (HWB.out.since hw.1) (by omega) o38.bytes a0 a1).mono ?_
          rw [← HO3.out]
          rintro e W2 ⟨v, rfl, ho, hb⟩
          exact ⟨_, rfl, calm_later hb.out, ho.elder hw.2⟩
        · intro listed a W H hw hl hd
          have T40 : (OutT OutE WB0.heap.size o2) (a.tmps.getD 40 undef) W := H.get 4 40 (by kernel_rfl) (dep_of hd 4 (by kernel_rfl)) (alive_none (by kernel_rfl))
          exact step2_value (i := 5) rfl rfl (run_op_move rfl rfl) (calm_refl _) T40
        · intro listed a W H hw hl hd
          have T35 : (OutT OutE WB0.heap.size o2) (a.tmps.getD 35 undef) W := H.get 5 35 (by kernel_rfl) (dep_of hd 5 (by kernel_rfl)) (alive_none (by kernel_rfl))
          obtain ⟨x41, y41, e41, s41, z41⟩ := T35
          exact step2_value (i := 6) rfl rfl (run_op_extract rfl e41 rfl) (calm_refl _) s41
        · intro listed a W H hw hl hd
          have T35 : (OutT OutE WB0.heap.size o2) (a.tmps.getD 35 undef) W := H.get 5 35 (by kernel_rfl) (dep_of hd 5 (by kernel_rfl)) (alive_none (by kernel_rfl))
          obtain ⟨x42, y42, e42, s42, z42⟩ := T35
          exact step2_value (i := 7) rfl rfl (run_op_extract rfl e42 rfl) (calm_refl _) z42
        · intro listed a W H hw hl hd
          have T41 : (OutS WB0.heap.size o2) (a.tmps.getD 41 undef) W := H.get 6 41 (by kernel_rfl) (dep_of hd 6 (by kernel_rfl)) (alive_none (by kernel_rfl))
          exact step2_value (i := 8) rfl rfl (run_op_assign rfl rfl) (calm_refl _) T41
        · intro listed a W H hw hl hd
          have T42 : (OutE o2) (a.tmps.getD 42 undef) W := H.get 7 42 (by kernel_rfl) (dep_of hd 7 (by kernel_rfl)) (alive_none (by kernel_rfl))
          exact step2_value (i := 9) rfl rfl (run_op_assign rfl rfl) (calm_refl _) T42
      · intro a WC hdef hsz hw hall hact
        have t13 : OutS WB0.heap.size o2 (a.tmps.getD 13 undef) WC := hall 8 _ rfl (by kernel_rfl)
        have t14 : OutE o2 (a.tmps.getD 14 undef) WC := hall 9 _ rfl (by kernel_rfl)
        obtain ⟨ub, hu⟩ : ∃ u : Nat → Value, ∀ k, a.tmps.getD k undef = u k := ⟨_, fun _ => rfl⟩
        simp only [hu] at hact t13 t14
        have hact' : a = ([36, 37, 38, 39, 40, 35, 41, 42, 13, 14] : List Nat).foldl (fun b k => b.put (some k) (ub k)) _ := hact
        have SC := Lib.hid (SB.out.trans (hw.1.mono SB.out.size))
        rw [HO4.out] at t13 t14
        obtain ⟨x14, h14⟩ := Bad.ne t14
        have h13 : ub 13 = .slice none 0 0 := t13
        simp only [List.foldl, h13, h14] at hact'
        simp only [Act.put, List.setIfInBounds_toArray, List.set_cons_succ, List.set_cons_zero] at hact'
        have HACT2 := Lib.hid hact'
        clear hu hact hact' t13 t14 h13 h14 hall hdef hsz
        rw [HACT2.out]
        clear HACT2
        have cA := Lib.hid (regrown_awake (HT.out.since SC.out) (HW.out.since SC.out))
        clear hw SB HHB HTB HWB HDWB0 HAB SA HHA
        go_wp2_with fail
        refine wp_region_quiet_below (by kernel_rfl) (by kernel_rfl) ?_
        repeat (go_big_quiet_step (first | (go_at_call 8; exact cA.out _ _)))
        refine wpQuiet_nil ?_
        intro _ hw'
        obtain ⟨⟨dq, osq⟩, hw''⟩ := hw'
        subst hw''
        go_wp2
        go_ret
        exact ⟨rfl, below_chain SC.out (below_regrown WC dq osq)⟩
    · have SA := Lib.hid (S0.out.trans (hw.1.mono S0.out.size))
      have HHA := Lib.hid (HH0.out.since hw.1)
      have HSZ0 : Hid (w.heap.size ≤ W0.heap.size) := S0.out.size
      obtain ⟨D1, m1, d1, h11, ho1⟩ := t11
      have h12 : ua 12 = .nilIface := t12
      simp only [List.foldl, h11, h12] at hact'
      simp only [Act.put, List.setIfInBounds_toArray, List.set_cons_succ, List.set_cons_zero] at hact'
      have HACT1 := Lib.hid hact'
      clear hu hact hact' h11 h12 t12 hall hdef hsz
      rw [HACT1.out]
      clear HACT1
      have hm1 : m1 = N + 28 := by rw [← ho1.len]; show (Hd.page xs (hN K A S G)).length = _; rw [Hd.page_len, HXL.out]
      subst hm1
      obtain ⟨g1, rfl, hg1, hg1b⟩ := own_at ho1 (by omega)
      have PA : Hid (Own WA W0.heap.size (some ⟨g1, 0, none⟩) (N + 28) d1 (Hd.page xs (hN K A S G))) := ho1
      have HG1 : Hid (w.heap.size ≤ g1 ∧ g1 < WA.heap.size) := ⟨Nat.le_trans HSZ0.out hg1, hg1b⟩
      clear ho1 hg1 hg1b
      clear hw S0 HH0 HT0 HW0 HDW0 HH1 S1'
      go_wp2_with fail
      obtain ⟨WB0, HDWB0⟩ : ∃ W, Hid (W = WA.drew) := ⟨_, rfl⟩
      have SB : Hid (Below w.heap.size w WB0) := by rw [HDWB0.out]; exact SA.out.drew
      have HHB : Hid (HeadAt WB0 w.heap.size K A S G) := by rw [HDWB0.out]; exact ⟨HHA.out.k, HHA.out.a, HHA.out.s, HHA.out.g⟩
      have HTB := Lib.hid (HT.out.since SB.out)
      have HWB := Lib.hid (HW.out.since SB.out)
      have HAB : Hid (Below WA.heap.size WA WB0) := by rw [HDWB0.out]; exact (Below.refl _ _).drew
      refine region_of_steps2 (by kernel_rfl) (fact2Of [.is (.int .i64 yy), .is (.int .i64 (N : Int)), .own WB0.heap.size N ys, .is (.agg #[.int .i64 K, .int .u64 A, .int .i64 S, .int .i64 G]), .that (OutT OutE WB0.heap.size o2) (fun _ _ _ h k => outTE_later h k), .that (OutT OutE WB0.heap.size o2) (fun _ _ _ h k => outTE_later h k), .that (OutS WB0.heap.size o2) (fun _ _ _ h k => outS_later h k), .that (OutE o2) (fun _ _ _ h k => outE_later h k), .that (OutS WB0.heap.size o2) (fun _ _ _ h k => outS_later h k), .that (OutE o2) (fun _ _ _ h k => outE_later h k)]) (deadOf []) Calm (fun W => Below WB0.heap.size WB0 W ∧ WB0.heap.size ≤ W.heap.size) (by kernel_rfl)
        (fun i j v w w' hm hd hn h hR => fact2_calm _ i j v w w' h hR) (fun j w w' h k => calm_inv h k) ⟨by rw [HDWB0.out]; exact Below.refl _ _, by rw [HDWB0.out]; exact Nat.le_refl _⟩ ?_ ?_
      · refine Steps2.cons ?_ (Steps2.cons ?_ (Steps2.cons ?_ (Steps2.cons ?_ (Steps2.cons ?_ (Steps2.cons ?_ (Steps2.cons ?_ (Steps2.cons ?_ (Steps2.cons ?_ (Steps2.cons ?_ (Steps2.nil))))))))))
        · intro listed a W H hw hl hd
          have t2 : a.tmps.getD 2 undef = .int .i64 yy := (H.old 2 (by kernel_rfl)).trans rfl
          exact step2_value (i := 0) rfl rfl (run_op_move rfl t2) (calm_refl _) rfl
        · intro listed a W H hw hl hd
          have t0 : a.tmps.getD 0 undef = .int .i64 (N : Int) := (H.old 0 (by kernel_rfl)).trans rfl
          exact step2_value (i := 1) rfl rfl (run_op_move rfl t0) (calm_refl _) rfl
        · intro listed a W H hw hl hd
          have t36 : a.tmps.getD 36 undef = .int .i64 yy := H.get 0 36 (by kernel_rfl) (dep_of hd 0 (by kernel_rfl)) (alive_none (by kernel_rfl))
          have t37 : a.tmps.getD 37 undef = .int .i64 (N : Int) := H.get 1 37 (by kernel_rfl) (dep_of hd 1 (by kernel_rfl)) (alive_none (by kernel_rfl))
          refine step2_call (i := 2) rfl rfl (run_op_call (vs := #[.int .i64 yy, .int .i64 (N : Int)]) Tryd.func21 (by kernel_rfl) (by kernel_rfl) rfl (by simp only [List.map_toArray, List.map_cons, List.map_nil]; show #[a.tmps.getD 36 undef, a.tmps.getD 37 undef] = _; rw [t36, t37])) ?_
          refine (fill_any yy (N : Int) N W rfl z0 z1 (by omega)).mono ?_
          rw [HY.out]
          rintro e W2 ⟨B, n2, c2, rfl, ho, hb⟩
          obtain rfl : N = n2 := by rw [← ho.len, ← HY.out, fillL_len]
          exact ⟨_, rfl, calm_later hb, B, c2, rfl, ho.elder hw.2⟩
        · intro listed a W H hw hl hd
          have t8 : a.tmps.getD 8 undef = .pointer (some ⟨w.heap.size, 0, none⟩) := (H.old 8 (by kernel_rfl)).trans rfl
          exact step2_value (i := 3) rfl rfl (run_op_load rfl t8 (run_load_head (HHB.out.since hw.1))) (calm_refl _) rfl
        · intro listed a W H hw hl hd
          obtain ⟨A38, q38, t38, o38⟩ := H.get 2 38 (by kernel_rfl) (dep_of hd 2 (by kernel_rfl)) (alive_none (by kernel_rfl))
          have t39 : a.tmps.getD 39 undef = .agg #[.int .i64 K, .int .u64 A, .int .i64 S, .int .i64 G] := H.get 3 39 (by kernel_rfl) (dep_of hd 3 (by kernel_rfl)) (alive_none (by kernel_rfl))
          refine step2_call (i := 4) rfl rfl (run_op_call (vs := #[.slice A38 N q38, .agg #[.int .i64 K, .int .u64 A, .int .i64 S, .int .i64 G]]) Tryd.func10 (by kernel_rfl) (by kernel_rfl) rfl (by simp only [List.map_toArray, List.map_cons, List.map_nil]; show #[a.tmps.getD 38 undef, a.tmps.getD 39 undef] = _; rw [t38, t39])) ?_
          refine (lay_any A38 N q38 ys K A S G W (HTB.out.since hw.1) (HWB.out.since hw.1) (by omega) o38.bytes a0 a1).mono ?_
          rw [← HO3.out]
          rintro e W2 ⟨v, rfl, ho, hb⟩
          exact ⟨_, rfl, calm_later hb.out, ho.elder hw.2⟩
        · intro listed a W H hw hl hd
          have T40 : (OutT OutE WB0.heap.size o2) (a.tmps.getD 40 undef) W := H.get 4 40 (by kernel_rfl) (dep_of hd 4 (by kernel_rfl)) (alive_none (by kernel_rfl))
          exact step2_value (i := 5) rfl rfl (run_op_move rfl rfl) (calm_refl _) T40
        · intro listed a W H hw hl hd
          have T35 : (OutT OutE WB0.heap.size o2) (a.tmps.getD 35 undef) W := H.get 5 35 (by kernel_rfl) (dep_of hd 5 (by kernel_rfl)) (alive_none (by kernel_rfl))
          obtain ⟨x41, y41, e41, s41, z41⟩ := T35
          exact step2_value (i := 6) rfl rfl (run_op_extract rfl e41 rfl) (calm_refl _) s41
        · intro listed a W H hw hl hd
          have T35 : (OutT OutE WB0.heap.size o2) (a.tmps.getD 35 undef) W := H.get 5 35 (by kernel_rfl) (dep_of hd 5 (by kernel_rfl)) (alive_none (by kernel_rfl))
          obtain ⟨x42, y42, e42, s42, z42⟩ := T35
          exact step2_value (i := 7) rfl rfl (run_op_extract rfl e42 rfl) (calm_refl _) z42
        · intro listed a W H hw hl hd
          have T41 : (OutS WB0.heap.size o2) (a.tmps.getD 41 undef) W := H.get 6 41 (by kernel_rfl) (dep_of hd 6 (by kernel_rfl)) (alive_none (by kernel_rfl))
          exact step2_value (i := 8) rfl rfl (run_op_assign rfl rfl) (calm_refl _) T41
        · intro listed a W H hw hl hd
          have T42 : (OutE o2) (a.tmps.getD 42 undef) W := H.get 7 42 (by kernel_rfl) (dep_of hd 7 (by kernel_rfl)) (alive_none (by kernel_rfl))
          exact step2_value (i := 9) rfl rfl (run_op_assign rfl rfl) (calm_refl _) T42
      · intro a WC hdef hsz hw hall hact
        have t13 : OutS WB0.heap.size o2 (a.tmps.getD 13 undef) WC := hall 8 _ rfl (by kernel_rfl)
        have t14 : OutE o2 (a.tmps.getD 14 undef) WC := hall 9 _ rfl (by kernel_rfl)
        obtain ⟨ub, hu⟩ : ∃ u : Nat → Value, ∀ k, a.tmps.getD k undef = u k := ⟨_, fun _ => rfl⟩
        simp only [hu] at hact t13 t14
        have hact' : a = ([36, 37, 38, 39, 40, 35, 41, 42, 13, 14] : List Nat).foldl (fun b k => b.put (some k) (ub k)) _ := hact
        have SC := Lib.hid (SB.out.trans (hw.1.mono SB.out.size))
        rw [HO4.out] at t13 t14
        have PC := Lib.hid ((PA.out.since HAB.out).since hw.1)
        have HSB : Hid (WA.heap.size ≤ WB0.heap.size) := HAB.out.size
        obtain ⟨D2, m2, d2, h13, ho2⟩ := t13
        have h14 : ub 14 = .nilIface := t14
        simp only [List.foldl, h13, h14] at hact'
        simp only [Act.put, List.setIfInBounds_toArray, List.set_cons_succ, List.set_cons_zero] at hact'
        have HACT2 := Lib.hid hact'
        clear hu hact hact' h13 h14 t14 hall hdef hsz
        rw [HACT2.out]
        clear HACT2
        have hm2 : m2 = N + 28 := by rw [← ho2.len]; show (Hd.page ys (hN K A S G)).length = _; rw [Hd.page_len, HYL.out]
        subst hm2
        have QC : Hid (Own WC WB0.heap.size D2 (N + 28) d2 (Hd.page ys (hN K A S G))) := ho2
        clear ho2 hw SB HHB HTB HWB HDWB0 HAB SA HHA PA
        go_wp2_with fail
        obtain ⟨WD0, HDWD0⟩ : ∃ W, Hid (W = WC.drew) := ⟨_, rfl⟩
        have SD : Hid (Below w.heap.size w WD0) := by rw [HDWD0.out]; exact SC.out.drew
        have HCD : Hid (Below WC.heap.size WC WD0) := by rw [HDWD0.out]; exact (Below.refl _ _).drew
        have PD := Lib.hid (PC.out.since HCD.out)
        have QD := Lib.hid (QC.out.since HCD.out)
        have HD1 := Lib.hid PD.out.cap
        have HD2 := Lib.hid QD.out.cap
        have hs75 := slice_from D2 (N + 28) d2 N (by omega)
        rw [show N + 28 - N = 28 by omega] at hs75
        obtain ⟨A13, HA13⟩ : ∃ A5 : Option Addr, Hid (A5 = if d2 = N then D2 else D2.map (·.add (N * 1))) := ⟨_, rfl⟩
        rw [← HA13.out] at hs75
        have HS75 := Lib.hid hs75
        obtain ⟨ts, HTSE⟩ : ∃ ts, Hid ((Hd.page ys (hN K A S G)).drop N = ts) := ⟨_, rfl⟩
        have HTS : Hid (Bytes WD0 WD0.heap.size A13 28 ts) := by
          have := QD.out.bytes.rest (k := N) (c := d2) (by omega) HD2.out
          rw [← HA13.out, show N + 28 - N = 28 by omega, HTSE.out] at this
          exact this
        have HXN : Hid (Bytes WD0 WD0.heap.size (some ⟨g1, 0, none⟩) N xs) := by
          have := PD.out.bytes.first (k := N) (by omega)
          have e := Hd.page_take xs (hN K A S G)
          rw [HXL.out] at e
          rwa [e] at this
        have HMS : Hid (xs ++ ts = mixedL xs ys (hN K A S G)) := by
          have e := Hd.page_drop ys (hN K A S G)
          rw [HYL.out] at e
          show _ = _
          unfold mixedL
          rw [← HTSE.out, e]
        have HSD : Hid (WC.heap.size ≤ WD0.heap.size) := HCD.out.size
        clear hs75 HA13 PC QC SC HCD
        refine region_of_steps2 (by kernel_rfl) (fact2Of [.is (.slice (some ⟨g1, 0, none⟩) (N + 28) d1), .is (.int .i64 (N : Int)), .is (.slice (some ⟨g1, 0, none⟩) N d1), .own WD0.heap.size N xs, .is (.slice D2 (N + 28) d2), .is (.int .i64 (N : Int)), .is (.slice A13 28 (d2 - N)), .own WD0.heap.size (N + 28) (xs ++ ts), .own WD0.heap.size (N + 28) (xs ++ ts)]) (deadOf [(3, 7)]) (But 7 WD0.heap.size) (fun W => Below WD0.heap.size WD0 W ∧ WD0.heap.size ≤ W.heap.size) (by kernel_rfl)
          (fun i j v w w' hm hd hn h hR => fact2_stays _ _ 7 WD0.heap.size [(3, 7)] (hds_of (by kernel_rfl)) i j v w w' hm hd hn h hR) (fun j w w' h k => but_inv h k) ⟨by rw [HDWD0.out]; exact Below.refl _ _, by rw [HDWD0.out]; exact Nat.le_refl _⟩ ?_ ?_
        · refine Steps2.cons ?_ (Steps2.cons ?_ (Steps2.cons ?_ (Steps2.cons ?_ (Steps2.cons ?_ (Steps2.cons ?_ (Steps2.cons ?_ (Steps2.cons ?_ (Steps2.cons ?_ (Steps2.nil)))))))))
          · intro listed a W H hw hl hd
            have t11 : a.tmps.getD 11 undef = .slice (some ⟨g1, 0, none⟩) (N + 28) d1 := (H.old 11 (by kernel_rfl)).trans rfl
            exact step2_value (i := 0) rfl rfl (run_op_move rfl t11) (but_refl _) rfl
          · intro listed a W H hw hl hd
            have t0 : a.tmps.getD 0 undef = .int .i64 (N : Int) := (H.old 0 (by kernel_rfl)).trans rfl
            exact step2_value (i := 1) rfl rfl (run_op_move rfl t0) (but_refl _) rfl
          · intro listed a W H hw hl hd
            have t69 : a.tmps.getD 69 undef = .slice (some ⟨g1, 0, none⟩) (N + 28) d1 := H.get 0 69 (by kernel_rfl) (dep_of hd 0 (by kernel_rfl)) (alive_none (by kernel_rfl))
            have t70 : a.tmps.getD 70 undef = .int .i64 (N : Int) := H.get 1 70 (by kernel_rfl) (dep_of hd 1 (by kernel_rfl)) (alive_none (by kernel_rfl))
            exact step2_value (i := 2) rfl rfl (run_op_slice rfl (by show (Instr.sliceAt 22 (a.tmps.getD 69 undef) none (some (a.tmps.getD 70 undef)) none).run _ _ = _; rw [t69, t70]; rw [run_sliceAt_slice (h := under24)]; exact slice_to (some ⟨g1, 0, none⟩) (N + 28) d1 N (by omega) HD1.out W)) (but_refl _) rfl
          · intro listed a W H hw hl hd
            have t71 : a.tmps.getD 71 undef = .slice (some ⟨g1, 0, none⟩) N d1 := H.get 2 71 (by kernel_rfl) (dep_of hd 2 (by kernel_rfl)) (alive_none (by kernel_rfl))
            obtain ⟨A2, q2, W2, hr, ho, hb⟩ := own_append (c' := d1) (Below.refl W.heap.size W) Own.none_ (HXN.out.since hw.1) (by omega)
            rw [Nat.zero_add] at hr ho
            rw [List.nil_append] at ho
            exact step2_value (i := 3) rfl rfl (run_op_append rfl rfl t71 hr) (but_later (by decide) hb) ⟨A2, q2, rfl, ho.elder hw.2⟩
          · intro listed a W H hw hl hd
            have t13 : a.tmps.getD 13 undef = .slice D2 (N + 28) d2 := (H.old 13 (by kernel_rfl)).trans rfl
            exact step2_value (i := 4) rfl rfl (run_op_move rfl t13) (but_refl _) rfl
          · intro listed a W H hw hl hd
            have t0 : a.tmps.getD 0 undef = .int .i64 (N : Int) := (H.old 0 (by kernel_rfl)).trans rfl
            exact step2_value (i := 5) rfl rfl (run_op_move rfl t0) (but_refl _) rfl
          · intro listed a W H hw hl hd
            have t73 : a.tmps.getD 73 undef = .slice D2 (N + 28) d2 := H.get 4 73 (by kernel_rfl) (dep_of hd 4 (by kernel_rfl)) (alive_none (by kernel_rfl))
            have t74 : a.tmps.getD 74 undef = .int .i64 (N : Int) := H.get 5 74 (by kernel_rfl) (dep_of hd 5 (by kernel_rfl)) (alive_none (by kernel_rfl))
            exact step2_value (i := 6) rfl rfl (run_op_slice rfl (by show (Instr.sliceAt 22 (a.tmps.getD 73 undef) (some (a.tmps.getD 74 undef)) none none).run _ _ = _; rw [t73, t74]; rw [run_sliceAt_slice (h := under24)]; exact HS75.out W)) (but_refl _) rfl
          · intro listed a W H hw hl hd
            obtain ⟨A72, q72, t72, o72⟩ := H.get 3 72 (by kernel_rfl) (dep_of hd 3 (by kernel_rfl)) (alive_now (by kernel_rfl) hl)
            have t75 : a.tmps.getD 75 undef = .slice A13 28 (d2 - N) := H.get 6 75 (by kernel_rfl) (dep_of hd 6 (by kernel_rfl)) (alive_none (by kernel_rfl))
            obtain ⟨A3, q3, W3, hr, ho, hb⟩ := own_append_at (c' := d2 - N) hw.1 o72 (HTS.out.since hw.1) (by omega)
            exact step2_value (i := 7) rfl rfl (run_op_append rfl t72 t75 hr) (but_own hb) ⟨A3, q3, rfl, ho⟩
          · intro listed a W H hw hl hd
            obtain ⟨A76, q76, t76, o76⟩ := H.get 7 76 (by kernel_rfl) (dep_of hd 7 (by kernel_rfl)) (alive_none (by kernel_rfl))
            exact step2_value (i := 8) rfl rfl (run_op_assign rfl t76) (but_refl _) ⟨_, _, rfl, o76⟩
        · intro a WE hdef hsz hw hall hact
          obtain ⟨A15, c15, t15, o15⟩ := hall 8 _ rfl (by kernel_rfl)
          have t15' : a.tmps.getD 15 undef = .slice A15 (N + 28) c15 := t15
          obtain ⟨uc, hu⟩ : ∃ u : Nat → Value, ∀ k, a.tmps.getD k undef = u k := ⟨_, fun _ => rfl⟩
          simp only [hu] at hact t15'
          have hact' : a = ([69, 70, 71, 72, 73, 74, 75, 76, 15] : List Nat).foldl (fun b k => b.put (some k) (uc k)) _ := hact
          simp only [List.foldl, t15'] at hact'
          simp only [Act.put, List.setIfInBounds_toArray, List.set_cons_succ, List.set_cons_zero] at hact'
          have HACT3 := Lib.hid hact'
          have SE := Lib.hid (SD.out.trans (hw.1.mono SD.out.size))
          have PE := Lib.hid (PD.out.since hw.1)
          have QE := Lib.hid (QD.out.since hw.1)
          have ME : Hid (Own WE WD0.heap.size A15 (N + 28) c15 (mixedL xs ys (hN K A S G))) := o15.same HMS.out
          clear hu hact hact' t15 t15' o15 hall hdef hsz hw SD PD QD HXN HTS HS75 HMS HTSE HDWD0
          rw [HACT3.out]
          clear HACT3
          obtain ⟨bf, HBFE⟩ : ∃ bf, Hid (decide (Hd.crc (Hd.body xs (hN K A S G)) = Hd.crc (Hd.body ys (hN K A S G))) = bf) := ⟨_, rfl⟩
          have HOK := Lib.hid (hN_ok HB.out a0 a1)
          have HF : Hid (Hd.fits xs.length) := by rw [HXL.out]; exact ⟨N0, N1⟩
          have HRM : Hid ((bf = true ∧ Hd.Reads (mixedL xs ys (hN K A S G)) (.valid xs (hN K A S G))) ∨ (bf = false ∧ Hd.Reads (mixedL xs ys (hN K A S G)) .torn)) := by
            by_cases e : Hd.crc (Hd.body xs (hN K A S G)) = Hd.crc (Hd.body ys (hN K A S G))
            · exact Or.inl ⟨by rw [← HBFE.out]; exact decide_eq_true e, mixed_valid HOK.out HF.out e⟩
            · exact Or.inr ⟨by rw [← HBFE.out]; exact decide_eq_false e, mixed_torn HOK.out HF.out (HXL.out.trans HYL.out.symm) e⟩
          go_wp2_with fail
          refine (read_mixed HRM.out A15 (N + 28) c15 _ (HT.out.since SE.out) (HW.out.since SE.out) (by omega) ME.out.cap ME.out.bytes).mono ?_
          rintro e WF ⟨B16, m16, c16, K6, A6, S6, G6, x6, rfl, hx6, hb6⟩
          have HX6 := Lib.hid hx6
          have SF := Lib.hid (since_alloc (below_chain SE.out hb6.out) (.cells #[.int .i64 K6, .int .u64 A6, .int .i64 S6, .int .i64 G6] 25))
          have PF := Lib.hid ((PE.out.since hb6.out).since (later_alloc WF (.cells #[.int .i64 K6, .int .u64 A6, .int .i64 S6, .int .i64 G6] 25)))
          have QF := Lib.hid ((QE.out.since hb6.out).since (later_alloc WF (.cells #[.int .i64 K6, .int .u64 A6, .int .i64 S6, .int .i64 G6] 25)))
          have MF := Lib.hid ((ME.out.since hb6.out).since (later_alloc WF (.cells #[.int .i64 K6, .int .u64 A6, .int .i64 S6, .int .i64 G6] 25)))
          clear hb6 hx6 SE PE QE ME
          go_wp2_with fail
          obtain ⟨WG0, HDWG0⟩ : ∃ W, Hid (W = (WF.alloc (.cells #[.int .i64 K6, .int .u64 A6, .int .i64 S6, .int .i64 G6] 25)).drew) := ⟨_, rfl⟩
          have SG : Hid (Below w.heap.size w WG0) := by rw [HDWG0.out]; exact SF.out.drew
          have PG : Hid (Own WG0 W0.heap.size (some ⟨g1, 0, none⟩) (N + 28) d1 (Hd.page xs (hN K A S G))) := by rw [HDWG0.out]; exact PF.out.since (Below.refl _ _).drew
          have QG : Hid (Own WG0 WB0.heap.size D2 (N + 28) d2 (Hd.page ys (hN K A S G))) := by rw [HDWG0.out]; exact QF.out.since (Below.refl _ _).drew
          have MG : Hid (Own WG0 WD0.heap.size A15 (N + 28) c15 (mixedL xs ys (hN K A S G))) := by rw [HDWG0.out]; exact MF.out.since (Below.refl _ _).drew
          have HTE := Lib.hid (HT.out.since SG.out)
          have HC15 := Lib.hid MG.out.cap
          have HB1E : Hid (Bytes WG0 WG0.heap.size A15 (N + 23) (Hd.body xs (hN K A S G))) := by
            have := MG.out.bytes.first (k := N + 23) (by omega)
            rwa [← HXL.out, mixed_take, HXL.out] at this
          have HB2E : Hid (Bytes WG0 WG0.heap.size D2 (N + 23) (Hd.body ys (hN K A S G))) := by
            have := QG.out.bytes.first (k := N + 23) (by omega)
            have e := Hd.page_body ys (hN K A S G)
            rw [HYL.out] at e
            rwa [e] at this
          obtain ⟨zz1, HZ1⟩ : ∃ z : Int, Hid (((Crc.more 0#32 [Hd.body xs (hN K A S G)].flatten).toNat : Int) = z) := ⟨_, rfl⟩
          obtain ⟨zz2, HZ2⟩ : ∃ z : Int, Hid (((Crc.more 0#32 [Hd.body ys (hN K A S G)].flatten).toNat : Int) = z) := ⟨_, rfl⟩
          have HBF : Hid ((zz1 == zz2) = bf) := by
            have f1 : [Hd.body xs (hN K A S G)].flatten = Hd.body xs (hN K A S G) := by simp
            have f2 : [Hd.body ys (hN K A S G)].flatten = Hd.body ys (hN K A S G) := by simp
            rw [← HZ1.out, ← HZ2.out, ← HBFE.out, f1, f2]
            show _ = decide ((Crc.more 0#32 (Hd.body xs (hN K A S G))).toNat = (Crc.more 0#32 (Hd.body ys (hN K A S G))).toNat)
            by_cases e : (Crc.more 0#32 (Hd.body xs (hN K A S G))).toNat = (Crc.more 0#32 (Hd.body ys (hN K A S G))).toNat
            · rw [decide_eq_true e, e]; simp
            · rw [decide_eq_false e]; simp; omega
          clear SF PF QF MF
          refine region_of_steps2 (by kernel_rfl) (fact2Of [.is (.slice A15 (N + 28) c15), .is (.int .i64 (N : Int)), .is (.int .i64 ((N + 23 : Nat) : Int)), .is (.slice A15 (N + 23) c15), .row [.slice A15 (N + 23) c15], .is (.int .u32 zz1), .is (.slice D2 (N + 28) d2), .is (.int .i64 (N : Int)), .is (.int .i64 ((N + 23 : Nat) : Int)), .is (.slice D2 (N + 23) d2), .row [.slice D2 (N + 23) d2], .is (.int .u32 zz2), .is (.bool bf), .is (.bool bf)]) (deadOf []) Calm (fun W => Below WG0.heap.size WG0 W ∧ WG0.heap.size ≤ W.heap.size) (by kernel_rfl)
            (fun i j v w w' hm hd hn h hR => fact2_calm _ i j v w w' h hR) (fun j w w' h k => calm_inv h k) ⟨by rw [HDWG0.out]; exact Below.refl _ _, by rw [HDWG0.out]; exact Nat.le_refl _⟩ ?_ ?_
          · refine Steps2.cons ?_ (Steps2.cons ?_ (Steps2.cons ?_ (Steps2.cons ?_ (Steps2.cons ?_ (Steps2.cons ?_ (Steps2.cons ?_ (Steps2.cons ?_ (Steps2.cons ?_ (Steps2.cons ?_ (Steps2.cons ?_ (Steps2.cons ?_ (Steps2.cons ?_ (Steps2.cons ?_ (Steps2.nil))))))))))))))
            · intro listed a W H hw hl hd
              have t15 : a.tmps.getD 15 undef = .slice A15 (N + 28) c15 := (H.old 15 (by kernel_rfl)).trans rfl
              exact step2_value (i := 0) rfl rfl (run_op_move rfl t15) (calm_refl _) rfl
            · intro listed a W H hw hl hd
              have t0 : a.tmps.getD 0 undef = .int .i64 (N : Int) := (H.old 0 (by kernel_rfl)).trans rfl
              exact step2_value (i := 1) rfl rfl (run_op_move rfl t0) (calm_refl _) rfl
            · intro listed a W H hw hl hd
              have t84 : a.tmps.getD 84 undef = .int .i64 (N : Int) := H.get 1 84 (by kernel_rfl) (dep_of hd 1 (by kernel_rfl)) (alive_none (by kernel_rfl))
              exact step2_value (i := 2) rfl rfl (run_op_bin rfl t84 rfl (run_add_i64 _ _ _ _ _ (by omega) (by omega) (by omega) _)) (calm_refl _) rfl
            · intro listed a W H hw hl hd
              have t83 : a.tmps.getD 83 undef = .slice A15 (N + 28) c15 := H.get 0 83 (by kernel_rfl) (dep_of hd 0 (by kernel_rfl)) (alive_none (by kernel_rfl))
              have t85 : a.tmps.getD 85 undef = .int .i64 ((N + 23 : Nat) : Int) := H.get 2 85 (by kernel_rfl) (dep_of hd 2 (by kernel_rfl)) (alive_none (by kernel_rfl))
              exact step2_value (i := 3) rfl rfl (run_op_slice rfl (by show (Instr.sliceAt 22 (a.tmps.getD 83 undef) none (some (a.tmps.getD 85 undef)) none).run _ _ = _; rw [t83, t85]; rw [run_sliceAt_slice (h := under24)]; exact slice_to A15 (N + 28) c15 (N + 23) (by omega) HC15.out W)) (calm_refl _) rfl
            · intro listed a W H hw hl hd
              have t86 : a.tmps.getD 86 undef = .slice A15 (N + 23) c15 := H.get 3 86 (by kernel_rfl) (dep_of hd 3 (by kernel_rfl)) (alive_none (by kernel_rfl))
              exact step2_value (i := 4) rfl rfl (run_op_build rfl (by simp only [List.map_toArray, List.map_cons, List.map_nil]; show (Instr.buildSlice 64 1 #[(0, a.tmps.getD 86 undef)]).run _ _ = _; rw [t86]; exact run_build22_1 ..)) (calm_later (later_alloc _ _)) (row2_made _ _ _ rfl)
            · intro listed a W H hw hl hd
              obtain ⟨g87, t87, c87, b87⟩ := H.get 4 87 (by kernel_rfl) (dep_of hd 4 (by kernel_rfl)) (alive_none (by kernel_rfl))
              refine step2_call (i := 5) rfl rfl (run_op_call (vs := #[.slice (some ⟨g87, 0, none⟩) 1 1]) Tryd.func22 (by kernel_rfl) (by kernel_rfl) rfl (by simp only [List.map_toArray, List.map_cons, List.map_nil]; show #[a.tmps.getD 87 undef] = _; rw [t87]; rfl)) ?_
              refine (of_since (some ⟨g87, 0, none⟩) 1 1 [Hd.body xs (hN K A S G)] W (by omega) (HTE.out.since hw.1) (parts_one (by omega) (c87 0 _ rfl) (HB1E.out.since hw.1))).mono ?_
              rintro e W2 ⟨rfl, hb⟩
              exact ⟨_, rfl, calm_later hb, congrArg (Value.int .u32) HZ1.out⟩
            · intro listed a W H hw hl hd
              have t13 : a.tmps.getD 13 undef = .slice D2 (N + 28) d2 := (H.old 13 (by kernel_rfl)).trans rfl
              exact step2_value (i := 6) rfl rfl (run_op_move rfl t13) (calm_refl _) rfl
            · intro listed a W H hw hl hd
              have t0 : a.tmps.getD 0 undef = .int .i64 (N : Int) := (H.old 0 (by kernel_rfl)).trans rfl
              exact step2_value (i := 7) rfl rfl (run_op_move rfl t0) (calm_refl _) rfl
            · intro listed a W H hw hl hd
              have t90 : a.tmps.getD 90 undef = .int .i64 (N : Int) := H.get 7 90 (by kernel_rfl) (dep_of hd 7 (by kernel_rfl)) (alive_none (by kernel_rfl))
              exact step2_value (i := 8) rfl rfl (run_op_bin rfl t90 rfl (run_add_i64 _ _ _ _ _ (by omega) (by omega) (by omega) _)) (calm_refl _) rfl
            · intro listed a W H hw hl hd
              have t89 : a.tmps.getD 89 undef = .slice D2 (N + 28) d2 := H.get 6 89 (by kernel_rfl) (dep_of hd 6 (by kernel_rfl)) (alive_none (by kernel_rfl))
              have t91 : a.tmps.getD 91 undef = .int .i64 ((N + 23 : Nat) : Int) := H.get 8 91 (by kernel_rfl) (dep_of hd 8 (by kernel_rfl)) (alive_none (by kernel_rfl))
              exact step2_value (i := 9) rfl rfl (run_op_slice rfl (by show (Instr.sliceAt 22 (a.tmps.getD 89 undef) none (some (a.tmps.getD 91 undef)) none).run _ _ = _; rw [t89, t91]; rw [run_sliceAt_slice (h := under24)]; exact slice_to D2 (N + 28) d2 (N + 23) (by omega) HD2.out W)) (calm_refl _) rfl
            · intro listed a W H hw hl hd
              have t92 : a.tmps.getD 92 undef = .slice D2 (N + 23) d2 := H.get 9 92 (by kernel_rfl) (dep_of hd 9 (by kernel_rfl)) (alive_none (by kernel_rfl))
              exact step2_value (i := 10) rfl rfl (run_op_build rfl (by simp only [List.map_toArray, List.map_cons, List.map_nil]; show (Instr.buildSlice 64 1 #[(0, a.tmps.getD 92 undef)]).run _ _ = _; rw [t92]; exact run_build22_1 ..)) (calm_later (later_alloc _ _)) (row2_made _ _ _ rfl)
            · intro listed a W H hw hl hd
              obtain ⟨g93, t93, c93, b93⟩ := H.get 10 93 (by kernel_rfl) (dep_of hd 10 (by kernel_rfl)) (alive_none (by kernel_rfl))
              refine step2_call (i := 11) rfl rfl (run_op_call (vs := #[.slice (some ⟨g93, 0, none⟩) 1 1]) Tryd.func22 (by kernel_rfl) (by kernel_rfl) rfl (by simp only [List.map_toArray, List.map_cons, List.map_nil]; show #[a.tmps.getD 93 undef] = _; rw [t93]; rfl)) ?_
              refine (of_since (some ⟨g93, 0, none⟩) 1 1 [Hd.body ys (hN K A S G)] W (by omega) (HTE.out.since hw.1) (parts_one (by omega) (c93 0 _ rfl) (HB2E.out.since hw.1))).mono ?_
              rintro e W2 ⟨rfl, hb⟩
              exact ⟨_, rfl, calm_later hb, congrArg (Value.int .u32) HZ2.out⟩
            · intro listed a W H hw hl hd
              have t88 : a.tmps.getD 88 undef = .int .u32 zz1 := H.get 5 88 (by kernel_rfl) (dep_of hd 5 (by kernel_rfl)) (alive_none (by kernel_rfl))
              have t94 : a.tmps.getD 94 undef = .int .u32 zz2 := H.get 11 94 (by kernel_rfl) (dep_of hd 11 (by kernel_rfl)) (alive_none (by kernel_rfl))
              exact step2_value (i := 12) rfl rfl (run_op_bin rfl t88 t94 (run_eql_u32 _ _ _ _ _ HBF.out _)) (calm_refl _) rfl
            · intro listed a W H hw hl hd
              have t95 : a.tmps.getD 95 undef = .bool bf := H.get 12 95 (by kernel_rfl) (dep_of hd 12 (by kernel_rfl)) (alive_none (by kernel_rfl))
              exact step2_value (i := 13) rfl rfl (run_op_assign rfl t95) (calm_refl _) rfl
          · intro a WH hdef hsz hw hall hact
            have t19 : a.tmps.getD 19 undef = .bool bf := hall 13 _ rfl (by kernel_rfl)
            obtain ⟨ud, hu⟩ : ∃ u : Nat → Value, ∀ k, a.tmps.getD k undef = u k := ⟨_, fun _ => rfl⟩
            simp only [hu] at hact t19
            have hact' : a = ([83, 84, 85, 86, 87, 88, 89, 90, 91, 92, 93, 94, 95, 19] : List Nat).foldl (fun b k => b.put (some k) (ud k)) _ := hact
            simp only [List.foldl, t19] at hact'
            simp only [Act.put, List.setIfInBounds_toArray, List.set_cons_succ, List.set_cons_zero] at hact'
            have HACT4 := Lib.hid hact'
            have SH := Lib.hid (SG.out.trans (hw.1.mono SG.out.size))
            have PH := Lib.hid (PG.out.since hw.1)
            clear hu hact hact' t19 hall hdef hsz hw SG PG QG MG HTE HB1E HB2E HZ1 HZ2 HBF HC15 HDWG0 HRM HBFE HD1 HD2
            rw [HACT4.out]
            clear HACT4
            go_wp2_with fail
            obtain ⟨p, HP, hpl⟩ : ∃ p : Nat, Hid (lowM z ((N : Int) + 28 - 1) = (p : Int)) ∧ p < N + 27 := by
              have h := lowM_bd z ((N : Int) + 28 - 1) (by omega)
              exact ⟨(lowM z ((N : Int) + 28 - 1)).toNat, by show _ = _; omega, by omega⟩
            refine (low_any z ((N : Int) + 28 - 1) (by omega) (by omega) _).mono ?_
            rw [HP.out]
            rintro e WI ⟨rfl, rfl⟩
            obtain ⟨us, HUS⟩ : ∃ us, Hid (us = Hd.page xs (hN K A S G)) := ⟨_, rfl⟩
            rw [← HUS.out] at PH
            have cell0 := own_cell PH.out (show p < N + 28 by omega)
            have cell1 := own_cell PH.out (show p + 1 < N + 28 by omega)
            have free0 := own_free PH.out p
            have free1 := own_free PH.out (p + 1)
            obtain ⟨e0, HE0⟩ : ∃ y : Int, Hid (((us.getD p 0 : Nat) : Int) = y) := ⟨_, rfl⟩
            obtain ⟨e1, HE1⟩ : ∃ y : Int, Hid (((us.getD (p + 1) 0 : Nat) : Int) = y) := ⟨_, rfl⟩
            rw [HE0.out] at cell0
            rw [HE1.out] at cell1
            have i0 : (0 : Int) ≤ (p : Int) := by omega
            have i1 : (p : Int) < (N : Int) + 28 := by omega
            have i2 : (p : Int) + 1 < (N : Int) + 28 := by omega
            have i3 : (0 : Int) ≤ (p : Int) + 1 := by omega
            go_wp2_with fail
            go_quiet (fail)
            clear cell0 cell1 free0 free1
            obtain ⟨WK, HWK⟩ : ∃ W, Hid (W = WH.drewN nq) := ⟨_, rfl⟩
            rw [← HWK.out]
            have SK : Hid (Below w.heap.size w WK) := by rw [HWK.out]; exact below_drewN SH.out nq
            have PK : Hid (Own WK W0.heap.size (some ⟨g1, 0, none⟩) (N + 28) d1 us) := by rw [HWK.out]; exact PH.out.since (below_drewN (Below.refl _ _) nq)
            have cell0 := own_cell PK.out (show p < N + 28 by omega)
            have cell1 := own_cell PK.out (show p + 1 < N + 28 by omega)
            rw [HE0.out] at cell0
            rw [HE1.out] at cell1
            have free0 := own_free PK.out p
            have free1 := own_free PK.out (p + 1)
            clear SH PH HWK
            go_wp2_with fail
            go_region
            have b0 := PK.out.small p
            have b1 := PK.out.small (p + 1)
            obtain ⟨hs1, hg1'⟩ := own_set PK.out p e1 (us.getD (p + 1) 0) HE1.out.symm b1
            obtain ⟨hs2, hg2'⟩ := own_set hs1 (p + 1) e0 (us.getD p 0) HE0.out.symm b0
            have hg3 := grownBy_trans hg1' hg2'
            have S0' := SK.out.grown hg3 SK.out.size (fun q hq => by rw [← Option.some.inj hq]; exact HG1.out.1)
            obtain ⟨WL, HWL⟩ : ∃ W, Hid (W = ((WK.setCell ⟨g1, p, none⟩ (.int .u8 e1)).setCell ⟨g1, p + 1, none⟩ (.int .u8 e0)).drew) := ⟨_, rfl⟩
            rw [← HWL.out]
            have SL : Hid (Below w.heap.size w WL) := by rw [HWL.out]; exact S0'.drew
            have PL : Hid (Own WL W0.heap.size (some ⟨g1, 0, none⟩) (N + 28) d1 (swapL us p)) := by rw [HWL.out]; exact hs2.since (Below.refl _ _).drew
            obtain ⟨b2, hb2⟩ : ∃ b, (e0 == e1) = b := ⟨_, rfl⟩
            have HRS : Hid ((b2 = true ∧ Hd.Reads (swapL us p) (.valid xs (hN K A S G))) ∨ (b2 = false ∧ Hd.Reads (swapL us p) .torn)) := by
              by_cases e : us.getD p 0 = us.getD (p + 1) 0
              · refine Or.inl ⟨?_, ?_⟩
                · rw [← hb2, ← HE0.out, ← HE1.out, e]; simp
                · rw [swap_same e, HUS.out]; exact Hd.Reads.page HOK.out HF.out
              · refine Or.inr ⟨?_, ?_⟩
                · rw [← hb2, ← HE0.out, ← HE1.out, beq_eq_false_iff_ne]; omega
                · rw [HUS.out]
                  exact swap_torn HOK.out HF.out HXB.out (by rw [HXL.out]; omega) (by rw [← HUS.out]; exact e)
            rw [hb2]
            clear b0 b1 hs1 hg1' hs2 hg2' hg3 S0' HWL cell0 cell1 free0 free1 SK PK hb2
            go_wp2_with fail
            refine (read_mixed HRS.out _ (N + 28) d1 _ (HT.out.since SL.out) (HW.out.since SL.out) (by omega) PL.out.cap PL.out.bytes).mono ?_
            rintro e WM ⟨B17, m17, c17, K7, A7, S7, G7, x7, rfl, hx7, hb7⟩
            have SM := Lib.hid (since_alloc (below_chain SL.out hb7.out) (.cells #[.int .i64 K7, .int .u64 A7, .int .i64 S7, .int .i64 G7] 25))
            have hx6 := HX6.out
            clear hb7 SL PL
            rcases bf with _ | _
            all_goals
              rcases b2 with _ | _
            all_goals
              go_wp2_with fail
              refine (awake_any _ (HT.out.since SM.out) (HW.out.since SM.out)).mono ?_
              rintro e W9 ⟨rfl, hb9⟩
              have S9 := Lib.hid (below_chain SM.out hb9.out)
              go_wp2_with fail
              go_ret
              exact ⟨rfl, S9.out⟩
end Go.Proofs.YticjdjffmagdkaaDoor
