/- The contract of head.Lay. Conditions: what the listed variables hold; the slice's cells; at most 900 bytes. -/
import Derived.Test.YticjdjffmagdkaaDoorHeadSmall
import Derived.Test.YticjdjffmagdkaaDoorPack
import Derived.Test.YticjdjffmagdkaaDoorSum
import Derived.Test.YticjdjffmagdkaaDoorOver
set_option linter.unusedVariables false
set_option linter.unusedSimpArgs false
namespace Go.Proofs.YticjdjffmagdkaaDoor
open Go.RowKit

/-- An append within the capacity: the row stays where it is, and no other one turns. -/
theorem own_append_fits {W : World} {g n c m c' base : Nat} {A' : Option Addr} {bs cs : List Nat} (h : Own W base (some ⟨g, 0, none⟩) n c bs) (hA : Bytes W W.heap.size A' m cs) (hnm : n + m ≤ c) :
    ∃ W2, (Builtin.append_ #[22, 22] 22 #[.slice (some ⟨g, 0, none⟩) n c, .slice A' m c']).run Tryd.prog W = .ok (.slice (some ⟨g, 0, none⟩) (n + m) c) W2 ∧ Own W2 base (some ⟨g, 0, none⟩) (n + m) c (bs ++ cs) ∧ W.grownBy W2 (some g) := by
  obtain ⟨i0, hi, hz0, hz1, hz2⟩ := info_parts info5
  rcases A' with _ | ad
  · have hm0 : m = 0 := by
      rcases Nat.eq_zero_or_pos m with h | h
      · exact h
      · obtain ⟨ad, h', _⟩ := hA.lies 0 h
        cases h'
    subst hm0
    have hcs : cs = [] := List.eq_nil_of_length_eq_zero hA.len
    subst hcs
    refine ⟨W, ?_, ⟨by simpa using h.row, getD_append _ _ h.small hA.small⟩, World.grownBy.refl _ _⟩
    have hnc : n ≤ c := by omega
    simp [Builtin.append_, run_underlying Tryd.underlying22, sizeOf, typeInfo, hi, Builtin.lenOf, Builtin.firstCells, storeCells, hnc]
  · have hlen := hA.len
    have hcells : ∀ j u, (cellsOf cs)[j]? = some u → W.cell? (ad.add j) = some u := by
      intro j u hu
      obtain ⟨hu', hj⟩ := byteAt_list hu
      obtain ⟨ad', e1, e2, e3⟩ := hA.lies j (by omega)
      obtain rfl := Option.some.inj e1
      rw [e3, hu']
    have h1 : ∀ u ∈ cellsOf cs, u.oneCell' = true := by
      intro u hu
      obtain ⟨b, _, rfl⟩ := List.mem_map.1 hu
      rfl
    obtain ⟨W2, hr, ho, hg⟩ := run_append_fits (P := Tryd.prog) W base 22 22 5 i0 1 Tryd.underlying22 hi hz1 g n c (cellsOf bs) h.row ad m c' (cellsOf cs) (by unfold cellsOf; simp [hlen]) hcells h1 hnm
    have e : cellsOf (bs ++ cs) = cellsOf bs ++ cellsOf cs := by unfold cellsOf; rw [List.map_append]
    exact ⟨W2, hr, ⟨by rw [e]; exact ho, getD_append _ _ h.small hA.small⟩, hg⟩
theorem cell_else {w w' : World} {g : Nat} (hg : w.grownBy w' (some g)) {p : Addr} {v : Value} (hp : p.block ≠ g) (h : w.cell? p = some v) : w'.cell? p = some v :=
  (World.cell?_of_block (w := w) (hg.block p.block (World.block_lt_of_cell? w p h) (fun e => hp (Option.some.inj e)))).trans h
/-- A head, laid in a block. -/
structure HeadAt (w : World) (g : Nat) (K A S G : Int) : Prop where
  k : w.cell? ⟨g, 0, none⟩ = some (.int .i64 K)
  a : w.cell? ⟨g, 1, none⟩ = some (.int .u64 A)
  s : w.cell? ⟨g, 2, none⟩ = some (.int .i64 S)
  g : w.cell? ⟨g, 3, none⟩ = some (.int .i64 G)
theorem headAt_new (W : World) (K A S G : Int) (t : TypeId) : HeadAt (W.alloc (.cells #[.int .i64 K, .int .u64 A, .int .i64 S, .int .i64 G] t)) W.heap.size K A S G :=
  ⟨cell_first rfl, cell_first rfl, cell_first rfl, cell_first rfl⟩
theorem HeadAt.since {w w' : World} {g : Nat} {K A S G : Int} (h : HeadAt w g K A S G) (hb : Below w.heap.size w w') : HeadAt w' g K A S G :=
  ⟨later_cell hb h.k, later_cell hb h.a, later_cell hb h.s, later_cell hb h.g⟩
theorem HeadAt.lt {w : World} {g : Nat} {K A S G : Int} (h : HeadAt w g K A S G) : g < w.heap.size := World.block_lt_of_cell? w _ h.k
theorem HeadAt.else_ {w w' : World} {g b : Nat} {K A S G : Int} (h : HeadAt w g K A S G) (hg : w.grownBy w' (some b)) (hn : g ≠ b) : HeadAt w' g K A S G :=
  ⟨cell_else hg hn h.k, cell_else hg hn h.a, cell_else hg hn h.s, cell_else hg hn h.g⟩
/-- What the list of widths holds. -/
structure Wid (w : World) : Prop where
  c0 : w.cell? ⟨0, 0, none⟩ = some (.int .i64 1)
  c1 : w.cell? ⟨0, 1, none⟩ = some (.int .i64 8)
  c2 : w.cell? ⟨0, 2, none⟩ = some (.int .i64 5)
  c3 : w.cell? ⟨0, 3, none⟩ = some (.int .i64 3)
  c4 : w.cell? ⟨0, 4, none⟩ = some (.int .i64 6)
theorem Wid.since {w w' : World} (h : Wid w) (hb : Below w.heap.size w w') : Wid w' :=
  ⟨later_cell hb h.c0, later_cell hb h.c1, later_cell hb h.c2, later_cell hb h.c3, later_cell hb h.c4⟩
/-- Five numbers, laid in a block. -/
structure Nums (w : World) (g : Nat) (a b c d e : Int) : Prop where
  c0 : w.cell? ⟨g, 0, none⟩ = some (.int .u64 a)
  c1 : w.cell? ⟨g, 1, none⟩ = some (.int .u64 b)
  c2 : w.cell? ⟨g, 2, none⟩ = some (.int .u64 c)
  c3 : w.cell? ⟨g, 3, none⟩ = some (.int .u64 d)
  c4 : w.cell? ⟨g, 4, none⟩ = some (.int .u64 e)
theorem Nums.since {w w' : World} {g : Nat} {a b c d e : Int} (h : Nums w g a b c d e) (hb : Below w.heap.size w w') : Nums w' g a b c d e :=
  ⟨later_cell hb h.c0, later_cell hb h.c1, later_cell hb h.c2, later_cell hb h.c3, later_cell hb h.c4⟩
theorem Nums.else_ {w w' : World} {g b' : Nat} {a b c d e : Int} (h : Nums w g a b c d e) (hg : w.grownBy w' (some b')) (hn : g ≠ b') : Nums w' g a b c d e :=
  ⟨cell_else hg hn h.c0, cell_else hg hn h.c1, cell_else hg hn h.c2, cell_else hg hn h.c3, cell_else hg hn h.c4⟩
theorem nums_new (W : World) (a b c d e : Int) (t : TypeId) : Nums (W.alloc (.cells #[.int .u64 a, .int .u64 b, .int .u64 c, .int .u64 d, .int .u64 e] t)) W.heap.size a b c d e :=
  ⟨cell_first rfl, cell_first rfl, cell_first rfl, cell_first rfl, cell_first rfl⟩
/-- What a call of Lay leaves that goes well. -/
def Lays (w : World) (ps : List Nat) (e : Ending) (w' : World) : Prop := ∃ A n c, e = .returned (.tuple #[.slice A n c, .nilIface]) ∧ Hid (Own w' w.heap.size A n c ps) ∧ Hid (Below w.heap.size w w')
/-- What one leaves that is refused. -/
def Refuses (w : World) (e : Ending) (w' : World) : Prop := ∃ v, e = .returned (.tuple #[.slice none 0 0, v]) ∧ Hid (Bad w' v) ∧ Hid (Below w.heap.size w w')
set_option maxHeartbeats 2000000 in
theorem lay_no (A : Option Addr) (n c : Nat) (K A' S G : Int) (w : World) (hn : n ≤ 9223372036854775807) (h : ¬(dataB n = true ∧ mayB K A' S G = true)) :
    Calls Tryd.prog 10 #[.slice A n c, .agg #[.int .i64 K, .int .u64 A', .int .i64 S, .int .i64 G]] w (Refuses w) := by
  have S1 := Lib.hid (since_alloc (Below.refl w.heap.size w) (.cells #[.int .i64 K, .int .u64 A', .int .i64 S, .int .i64 G] 25))
  have HH := Lib.hid (headAt_new w K A' S G 25)
  obtain ⟨b1, HB1⟩ : ∃ b, Hid (b = dataB n) := ⟨_, rfl⟩
  obtain ⟨b2, HB2⟩ : ∃ b, Hid (b = mayB K A' S G) := ⟨_, rfl⟩
  have hb : b1 = false ∨ (b1 = true ∧ b2 = false) := by
    rw [← HB1.out, ← HB2.out] at h
    cases b1 <;> cases b2 <;> simp at h ⊢
  clear h
  rcases hb with rfl | ⟨rfl, rfl⟩
  · go_enter Tryd.func10, Tryd.ntmps10
    go_wp2_with fail
    refine (maybedata_any _ _).mono ?_
    rw [← HB1.out]
    rintro e W2 ⟨rfl, hb2⟩
    have S2 := Lib.hid (S1.out.trans (hb2.out.mono (by simp)))
    clear S1 HH hb2
    go_wp2_with fail
    go_ret2
    exact ⟨_, rfl, ⟨_, _, rfl, cell_first rfl, cell_first rfl⟩, S2.out.alloc S2.out.size _⟩
  · go_enter Tryd.func10, Tryd.ntmps10
    go_wp2_with fail
    refine (maybedata_any _ _).mono ?_
    rw [← HB1.out]
    rintro e W2 ⟨rfl, hb2⟩
    have S2 := Lib.hid (S1.out.trans (hb2.out.mono (by simp)))
    obtain ⟨c0, c1, c2, c3⟩ := HH.out.since hb2.out
    clear S1 HH hb2
    go_wp2_with fail
    refine (headmay_any _ _ _ _ _).mono ?_
    rw [← HB2.out]
    rintro e W3 ⟨rfl, hb3⟩
    have S3 := Lib.hid (below_chain S2.out hb3.out)
    clear S2 hb3 c0 c1 c2 c3
    go_wp2_with fail
    go_ret2
    exact ⟨_, rfl, ⟨_, _, rfl, cell_first rfl, cell_first rfl⟩, S3.out.alloc S3.out.size _⟩
theorem info3 : (Tryd.prog.info? 3).map (fun i => (i.zero, i.size, i.bytes)) = some (some (.int .i64 0), 1, 8) := by kernel_rfl
theorem run_index5 (a b c d e : Value) (w : World) : (Instr.index 55 (.agg #[a, b, c, d, e]) (.int .i64 0)).run Tryd.prog w = .ok a w ∧ (Instr.index 55 (.agg #[a, b, c, d, e]) (.int .i64 1)).run Tryd.prog w = .ok b w ∧
    (Instr.index 55 (.agg #[a, b, c, d, e]) (.int .i64 2)).run Tryd.prog w = .ok c w ∧ (Instr.index 55 (.agg #[a, b, c, d, e]) (.int .i64 3)).run Tryd.prog w = .ok d w ∧ (Instr.index 55 (.agg #[a, b, c, d, e]) (.int .i64 4)).run Tryd.prog w = .ok e w := by
  obtain ⟨i0, hi, hz0, hz1, hz2⟩ := info_parts info3
  refine ⟨?_, ?_, ?_, ?_, ?_⟩
  all_goals
    simp [Instr.index, asIntOf, run_underlying Tryd.underlying55, part, isAgg, run_underlying Tryd.underlying3, sizeOf, typeInfo, hi, hz1]
/-- The sum of one part. -/
theorem of_one (A : Option Addr) (n c : Nat) (bs : List Nat) (W : World) (hn : n ≤ 9223372036854775807) (hT : Tabs W) (hA : Bytes W W.heap.size A n bs) :
    Calls Tryd.prog 22 #[.slice (some ⟨W.heap.size, 0, none⟩) 1 1] (W.alloc (.cells #[.slice A n c] 22)) fun e w' => ∃ z : Int, e = .returned (.int .u32 z) ∧ Hid (z = ((Hd.crc bs : Nat) : Int)) ∧ 0 ≤ z ∧ z ≤ 4294967295 ∧ Hid (Below W.heap.size W w') := by
  have hp : Parts (W.alloc (.cells #[.slice A n c] 22)) (W.alloc (.cells #[.slice A n c] 22)).heap.size (some ⟨W.heap.size, 0, none⟩) 1 [bs] :=
    parts_new _ _ _ 1 [bs] rfl rfl fun k hk => by
      obtain rfl : k = 0 := by omega
      exact ⟨A, n, c, rfl, hn, hA⟩
  refine (of_since (some ⟨W.heap.size, 0, none⟩) 1 1 [bs] _ (by omega) (hT.alloc _) hp).mono ?_
  rintro e w' ⟨rfl, hb⟩
  have e1 : [bs].flatten = bs := by simp
  rw [e1]
  exact ⟨_, rfl, rfl, by omega, bv_le _, (later_alloc W _).trans (hb.mono (by simp))⟩
theorem wid_le (k : Nat) : Hd.wid k ≤ 8 := by
  match k with
  | 0 => decide
  | 1 => decide
  | 2 => decide
  | 3 => decide
  | _ + 4 => exact (by decide : (6 : Nat) ≤ 8)
theorem fix_new (x m : Int) (v k : Nat) (w : World) (h0 : 0 ≤ x) (h1 : x ≤ 18446744073709551615) (HX : Hid (x = (v : Int))) (hm : m = (k : Int)) (hk : k ≤ 8) :
    Calls Tryd.prog 25 #[.slice none 0 0, .int .u64 x, .int .i64 m] w fun e w' => ∃ A c, e = .returned (.slice A k c) ∧ Hid (Own w' w.heap.size A k c (Pk.fix v k)) ∧ Hid (Below w.heap.size w w') := by
  refine (fix_any none 0 0 [] x m v w h0 h1 HX (by omega) Bytes.none_).mono ?_
  have e : fixMany m = k := by rw [fixMany_yes (by omega), hm, Int.toNat_natCast]
  rw [e, List.nil_append]
  rintro e W1 ⟨A1, n1, c1, rfl, HO, HB⟩
  obtain rfl : k = n1 := by rw [← HO.len, Pk.fix_len]
  exact ⟨A1, c1, rfl, HO, HB⟩
set_option maxHeartbeats 8000000 in
theorem lay_yes (A : Option Addr) (n c : Nat) (bs : List Nat) (K A' S G : Int) (h : Hd.H) (w : World) (hT : Tabs w) (hW : Wid w) (hn0 : 128 ≤ n) (hn1 : n ≤ 256) (hA : Bytes w w.heap.size A n bs)
    (hm : mayB K A' S G = true) (HK : Hid (K = (h.k : Int))) (HAA : Hid (A' = (h.a : Int))) (HS : Hid (S = (h.s : Int))) (HG : Hid (G = (h.g : Int))) (ha : 0 ≤ A' ∧ A' ≤ 18446744073709551615) :
    Calls Tryd.prog 10 #[.slice A n c, .agg #[.int .i64 K, .int .u64 A', .int .i64 S, .int .i64 G]] w (Lays w (Hd.page bs h)) := by
  have S1 := Lib.hid (since_alloc (Below.refl w.heap.size w) (.cells #[.int .i64 K, .int .u64 A', .int .i64 S, .int .i64 G] 25))
  have HH := Lib.hid (headAt_new w K A' S G 25)
  have HM := Lib.hid hm
  have HD := Lib.hid (dataB_yes (x := (n : Int)) (by omega) (by omega))
  have HT := Lib.hid hT
  have HW := Lib.hid hW
  have HA := Lib.hid hA
  have bd := mayB_out hm
  have bs0 : 1 ≤ S := bd.1
  have bs1 : S ≤ 1099511627775 := bd.2.1
  have bg0 : 0 ≤ G := bd.2.2.1
  have bg1 : G ≤ 16777215 := bd.2.2.2.1
  have bk0 : 0 ≤ K := by omega
  have bk1 : K ≤ 4 := by omega
  obtain ⟨ba0, ba1⟩ := ha
  clear hm hT hW hA bd
  go_enter Tryd.func10, Tryd.ntmps10
  go_wp2_with fail
  refine (maybedata_any _ _).mono ?_
  rw [HD.out]
  rintro e W2 ⟨rfl, hb2⟩
  have S2 := Lib.hid (S1.out.trans (hb2.out.mono (by simp)))
  have H2 := Lib.hid (HH.out.since hb2.out)
  obtain ⟨c0, c1, c2, c3⟩ := H2.out
  clear S1 hb2
  go_wp2_with fail
  refine (headmay_any _ _ _ _ _).mono ?_
  rw [HM.out]
  rintro e W3 ⟨rfl, hb3⟩
  have S3 := Lib.hid (below_chain S2.out hb3.out)
  have H3 := Lib.hid (H2.out.since hb3.out)
  clear S2 H2 HH hb3 c0 c1 c2 c3
  have hmk := make_room n 28 (by omega) (by omega) (by omega) W3
  have hS4 := since_alloc S3.out (.cells (madeCells #[.int .u8 0] ((n : Int) + 28).toNat) 5)
  have hO4 := own_made (base := w.heap.size) W3 ((n : Int) + 28).toNat (by omega) S3.out.size
  have hn28 : ((n : Int) + 28).toNat = n + 28 := by omega
  rw [hn28] at hmk hS4 hO4
  obtain ⟨W4, hr, ho, hg⟩ := own_append_fits (c' := c) hO4 (HA.out.since hS4) (by omega)
  rw [Nat.zero_add] at hr ho
  rw [List.nil_append] at ho
  have R4 := Lib.hid hr
  have O4 := Lib.hid ho
  have S4 := Lib.hid (hS4.grown hg (by have := S3.out.size; simp; omega) (fun k hk => by rw [← Option.some.inj hk]; exact S3.out.size))
  have H4 := Lib.hid ((H3.out.since (later_alloc _ _)).else_ hg (by have := H3.out.lt; omega))
  have hlt4 : W3.heap.size < W4.heap.size := by have := hg.size; simp at this; omega
  clear hr ho hg hS4 hO4 hn28
  obtain ⟨c0, c1, c2, c3⟩ := H4.out
  obtain ⟨w0, w1, w2, w3, w4⟩ := (HW.out.since S4.out).since (later_alloc W4 (.cells #[.int .u64 K, .int .u64 A', .int .u64 S, .int .u64 G, .int .u64 0] 54))
  go_wp2_with (at_builtin; refine wpList_append_run rfl (.tmp 26) (.tmp 27) 22 rfl rfl rfl R4.out ?_)
  have HN4 := Lib.hid (nums_new W4 K A' S G 0 54)
  have O5 := Lib.hid (O4.out.since (later_alloc W4 (.cells #[.int .u64 K, .int .u64 A', .int .u64 S, .int .u64 G, .int .u64 0] 54)))
  have S5 := Lib.hid (below_chain S4.out (later_alloc W4 (.cells #[.int .u64 K, .int .u64 A', .int .u64 S, .int .u64 G, .int .u64 0] 54)))
  have S3z := Lib.hid S3.out.size
  have HLT := Lib.hid hlt4
  clear R4 O4 S4 H4 S3 H3 hlt4 c0 c1 c2 c3 w0 w1 w2 w3 w4
  go_loopw [6, 42] (fun t6 t42 wr => ∃ (k : Nat) (x : Int) (m : Nat) (us : List Nat), t42 = .int .i64 x ∧ t6 = .slice (some ⟨W3.heap.size, 0, none⟩) m (n + 28) ∧ Hid (m = n + Hd.off k) ∧ Hid (us = Hd.upTo bs h k) ∧
    Hid (Own wr w.heap.size (some ⟨W3.heap.size, 0, none⟩) m (n + 28) us) ∧ Hid (Nums wr W4.heap.size K A' S G 0) ∧ Hid (Below w.heap.size w wr) ∧ Hid (W3.heap.size < wr.heap.size) ∧
    ((k = 0 ∧ x = 0) ∨ (k = 1 ∧ x = 1) ∨ (k = 2 ∧ x = 2) ∨ (k = 3 ∧ x = 3) ∨ (k = 4 ∧ x = 4) ∨ (k = 5 ∧ x = 5))) (fun _ t42 _ => 5 - (intOf t42).toNat)
  case atStart => exact ⟨0, 0, n, bs, rfl, rfl, rfl, rfl, O5, HN4, S5, by show _ < _; have := HLT.out; simp; omega, Or.inl ⟨rfl, rfl⟩⟩
  case round =>
    obtain ⟨k, x, m, us, rfl, rfl, HM3, HU, HO, HN, HB, HZ, hk⟩ := hrel
    obtain ⟨n0, n1, n2, n3, n4⟩ := HN.out
    obtain ⟨x0, x1, x2, x3, x4⟩ := run_index5 (.int .i64 1) (.int .i64 8) (.int .i64 5) (.int .i64 3) (.int .i64 6) wr
    rcases hk with ⟨rfl, rfl⟩ | ⟨rfl, rfl⟩ | ⟨rfl, rfl⟩ | ⟨rfl, rfl⟩ | ⟨rfl, rfl⟩ | ⟨rfl, rfl⟩
    · go_wp2_with fail
      refine (fix_new K 1 (Hd.num h 0) (Hd.wid 0) _ (by omega) (by omega) HK rfl (wid_le 0)).mono ?_
      rintro e W6 ⟨A6, c6, rfl, HO6, HB6⟩
      obtain ⟨W7, hr, ho, hg⟩ := own_append_fits (c' := c6) (HO.out.since HB6.out) HO6.out.bytes (by have h1 := HM3.out; have h2 : Hd.off 0 + Hd.wid 0 ≤ 28 := (by decide); omega)
      have R7 := Lib.hid hr
      have O7 := Lib.hid ho
      have N7 := Lib.hid ((HN.out.since HB6.out).else_ hg (by have := HLT.out; omega))
      have S7 := Lib.hid ((below_chain HB.out HB6.out).grown hg (by have := HB.out.size; have := HB6.out.size; omega) (fun q hq => by rw [← Option.some.inj hq]; exact S3z.out))
      have Z7 : Hid (W3.heap.size < W7.heap.size) := by have := HZ.out; have := HB6.out.size; have := hg.size; show _ < _; omega
      have M7 : Hid (m + Hd.wid 0 = n + Hd.off 1) := by rw [HM3.out]; show _ = n + (Hd.off 0 + Hd.wid 0); omega
      have U7 : Hid (us ++ Pk.fix (Hd.num h 0) (Hd.wid 0) = Hd.upTo bs h 1) := by rw [HU.out]; rfl
      clear hr ho hg n0 n1 n2 n3 n4 x0 x1 x2 x3 x4
      go_wp2_with (at_builtin; refine wpList_append_run rfl (.tmp 46) (.tmp 51) 22 rfl rfl rfl R7.out ?_)
      go_roundw
      case rel => exact ⟨1, 1, _, _, rfl, rfl, M7, U7, O7, N7, S7, Z7, by omega⟩
      case measure => simp [intOf]
    · go_wp2_with fail
      refine (fix_new A' 8 (Hd.num h 1) (Hd.wid 1) _ (by omega) (by omega) HAA rfl (wid_le 1)).mono ?_
      rintro e W6 ⟨A6, c6, rfl, HO6, HB6⟩
      obtain ⟨W7, hr, ho, hg⟩ := own_append_fits (c' := c6) (HO.out.since HB6.out) HO6.out.bytes (by have h1 := HM3.out; have h2 : Hd.off 1 + Hd.wid 1 ≤ 28 := (by decide); omega)
      have R7 := Lib.hid hr
      have O7 := Lib.hid ho
      have N7 := Lib.hid ((HN.out.since HB6.out).else_ hg (by have := HLT.out; omega))
      have S7 := Lib.hid ((below_chain HB.out HB6.out).grown hg (by have := HB.out.size; have := HB6.out.size; omega) (fun q hq => by rw [← Option.some.inj hq]; exact S3z.out))
      have Z7 : Hid (W3.heap.size < W7.heap.size) := by have := HZ.out; have := HB6.out.size; have := hg.size; show _ < _; omega
      have M7 : Hid (m + Hd.wid 1 = n + Hd.off 2) := by rw [HM3.out]; show _ = n + (Hd.off 1 + Hd.wid 1); omega
      have U7 : Hid (us ++ Pk.fix (Hd.num h 1) (Hd.wid 1) = Hd.upTo bs h 2) := by rw [HU.out]; rfl
      clear hr ho hg n0 n1 n2 n3 n4 x0 x1 x2 x3 x4
      go_wp2_with (at_builtin; refine wpList_append_run rfl (.tmp 46) (.tmp 51) 22 rfl rfl rfl R7.out ?_)
      go_roundw
      case rel => exact ⟨2, 2, _, _, rfl, rfl, M7, U7, O7, N7, S7, Z7, by omega⟩
      case measure => simp [intOf]
    · go_wp2_with fail
      refine (fix_new S 5 (Hd.num h 2) (Hd.wid 2) _ (by omega) (by omega) HS rfl (wid_le 2)).mono ?_
      rintro e W6 ⟨A6, c6, rfl, HO6, HB6⟩
      obtain ⟨W7, hr, ho, hg⟩ := own_append_fits (c' := c6) (HO.out.since HB6.out) HO6.out.bytes (by have h1 := HM3.out; have h2 : Hd.off 2 + Hd.wid 2 ≤ 28 := (by decide); omega)
      have R7 := Lib.hid hr
      have O7 := Lib.hid ho
      have N7 := Lib.hid ((HN.out.since HB6.out).else_ hg (by have := HLT.out; omega))
      have S7 := Lib.hid ((below_chain HB.out HB6.out).grown hg (by have := HB.out.size; have := HB6.out.size; omega) (fun q hq => by rw [← Option.some.inj hq]; exact S3z.out))
      have Z7 : Hid (W3.heap.size < W7.heap.size) := by have := HZ.out; have := HB6.out.size; have := hg.size; show _ < _; omega
      have M7 : Hid (m + Hd.wid 2 = n + Hd.off 3) := by rw [HM3.out]; show _ = n + (Hd.off 2 + Hd.wid 2); omega
      have U7 : Hid (us ++ Pk.fix (Hd.num h 2) (Hd.wid 2) = Hd.upTo bs h 3) := by rw [HU.out]; rfl
      clear hr ho hg n0 n1 n2 n3 n4 x0 x1 x2 x3 x4
      go_wp2_with (at_builtin; refine wpList_append_run rfl (.tmp 46) (.tmp 51) 22 rfl rfl rfl R7.out ?_)
      go_roundw
      case rel => exact ⟨3, 3, _, _, rfl, rfl, M7, U7, O7, N7, S7, Z7, by omega⟩
      case measure => simp [intOf]
    · go_wp2_with fail
      refine (fix_new G 3 (Hd.num h 3) (Hd.wid 3) _ (by omega) (by omega) HG rfl (wid_le 3)).mono ?_
      rintro e W6 ⟨A6, c6, rfl, HO6, HB6⟩
      obtain ⟨W7, hr, ho, hg⟩ := own_append_fits (c' := c6) (HO.out.since HB6.out) HO6.out.bytes (by have h1 := HM3.out; have h2 : Hd.off 3 + Hd.wid 3 ≤ 28 := (by decide); omega)
      have R7 := Lib.hid hr
      have O7 := Lib.hid ho
      have N7 := Lib.hid ((HN.out.since HB6.out).else_ hg (by have := HLT.out; omega))
      have S7 := Lib.hid ((below_chain HB.out HB6.out).grown hg (by have := HB.out.size; have := HB6.out.size; omega) (fun q hq => by rw [← Option.some.inj hq]; exact S3z.out))
      have Z7 : Hid (W3.heap.size < W7.heap.size) := by have := HZ.out; have := HB6.out.size; have := hg.size; show _ < _; omega
      have M7 : Hid (m + Hd.wid 3 = n + Hd.off 4) := by rw [HM3.out]; show _ = n + (Hd.off 3 + Hd.wid 3); omega
      have U7 : Hid (us ++ Pk.fix (Hd.num h 3) (Hd.wid 3) = Hd.upTo bs h 4) := by rw [HU.out]; rfl
      clear hr ho hg n0 n1 n2 n3 n4 x0 x1 x2 x3 x4
      go_wp2_with (at_builtin; refine wpList_append_run rfl (.tmp 46) (.tmp 51) 22 rfl rfl rfl R7.out ?_)
      go_roundw
      case rel => exact ⟨4, 4, _, _, rfl, rfl, M7, U7, O7, N7, S7, Z7, by omega⟩
      case measure => simp [intOf]
    · go_wp2_with fail
      refine (fix_new 0 6 (Hd.num h 4) (Hd.wid 4) _ (by omega) (by omega) rfl rfl (wid_le 4)).mono ?_
      rintro e W6 ⟨A6, c6, rfl, HO6, HB6⟩
      obtain ⟨W7, hr, ho, hg⟩ := own_append_fits (c' := c6) (HO.out.since HB6.out) HO6.out.bytes (by have h1 := HM3.out; have h2 : Hd.off 4 + Hd.wid 4 ≤ 28 := (by decide); omega)
      have R7 := Lib.hid hr
      have O7 := Lib.hid ho
      have N7 := Lib.hid ((HN.out.since HB6.out).else_ hg (by have := HLT.out; omega))
      have S7 := Lib.hid ((below_chain HB.out HB6.out).grown hg (by have := HB.out.size; have := HB6.out.size; omega) (fun q hq => by rw [← Option.some.inj hq]; exact S3z.out))
      have Z7 : Hid (W3.heap.size < W7.heap.size) := by have := HZ.out; have := HB6.out.size; have := hg.size; show _ < _; omega
      have M7 : Hid (m + Hd.wid 4 = n + Hd.off 5) := by rw [HM3.out]; show _ = n + (Hd.off 4 + Hd.wid 4); omega
      have U7 : Hid (us ++ Pk.fix (Hd.num h 4) (Hd.wid 4) = Hd.upTo bs h 5) := by rw [HU.out]; rfl
      clear hr ho hg n0 n1 n2 n3 n4 x0 x1 x2 x3 x4
      go_wp2_with (at_builtin; refine wpList_append_run rfl (.tmp 46) (.tmp 51) 22 rfl rfl rfl R7.out ?_)
      go_roundw
      case rel => exact ⟨5, 5, _, _, rfl, rfl, M7, U7, O7, N7, S7, Z7, by omega⟩
      case measure => simp [intOf]
    · have hm23 : m = n + 23 := HM3.out
      subst hm23
      have HUB : Hid (us = Hd.body bs h) := by rw [HU.out]; exact Hd.upTo_body bs h
      clear n0 n1 n2 n3 n4 x0 x1 x2 x3 x4
      go_wp2_with fail
      refine (of_one _ (n + 23) (n + 28) us _ (by omega) (HT.out.since HB.out) HO.out.bytes).mono ?_
      rintro e W6 ⟨z, rfl, HZ6, hz0, hz1, HB6⟩
      have O6 := Lib.hid (HO.out.since HB6.out)
      have B6 := Lib.hid (below_chain HB.out HB6.out)
      clear HN
      go_wp2_with fail
      refine (fix_new z 4 (Hd.crc us) 4 _ hz0 (by omega) HZ6 rfl (by omega)).mono ?_
      rintro e W7 ⟨A7, c7, rfl, HO7, HB7⟩
      obtain ⟨W8, hr, ho, hg⟩ := own_append_fits (c' := c7) (O6.out.since HB7.out) HO7.out.bytes (by omega)
      have R8 := Lib.hid hr
      have B8 := Lib.hid ((below_chain B6.out HB7.out).grown hg (by have := B6.out.size; have := HB7.out.size; omega) (fun q hq => by rw [← Option.some.inj hq]; exact S3z.out))
      obtain ⟨W9, hr9, ho9, hg9⟩ := own_append_fits (c' := 1) (ho.since (later_alloc W8 (.cells #[.int .u8 0] 5))) (bytes_new1 W8 0 0 rfl (by omega)) (by omega)
      have R9 := Lib.hid hr9
      have B9 := Lib.hid ((below_chain B8.out (later_alloc W8 (.cells #[.int .u8 0] 5))).grown hg9 (by have := B8.out.size; simp; omega) (fun q hq => by rw [← Option.some.inj hq]; exact S3z.out))
      have O9 : Hid (Own W9 w.heap.size (some ⟨W3.heap.size, 0, none⟩) (n + 23 + 4 + 1) (n + 28) (Hd.page bs h)) := ho9.same (by rw [HUB.out, List.append_assoc]; rfl)
      clear hr ho hg hr9 ho9 hg9
      go_wp2_with (at_builtin; first | (refine wpList_append_run rfl (.tmp 54) (.tmp 59) 22 rfl rfl rfl R8.out ?_) | (refine wpList_append_run rfl (.tmp 61) (.tmp 62) 22 rfl rfl rfl R9.out ?_))
      go_ret2
      exact ⟨_, _, _, rfl, O9, B9⟩
end Go.Proofs.YticjdjffmagdkaaDoor
