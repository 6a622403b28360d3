/- The contracts of the statements' LendBytes and KeptBytes: bytes are lent with a mark behind them; they are kept, and so is the mark. Conditions: at most 300 bytes. -/
import Derived.Test.YteglhfimmbphmaaDoorAwake
import Derived.Laws.MakeOwn
import Derived.Laws.AppendOwn
import Derived.Laws.CopyOwn
import Derived.OwnWalk
set_option linter.unusedVariables false
set_option linter.unusedSimpArgs false
namespace Go.Proofs.YteglhfimmbphmaaDoor
open Go.RowKit

theorem info5 : (Tryd.prog.info? 5).map (fun i => (i.zero, i.size, i.bytes)) = some (some (.int .u8 0), 1, 1) := by kernel_rfl

/-- An append whose run is known. -/
theorem wpList_append_run {P : Program} {ops : Array Oper} {rest : List Oper} {o : Oper} {a : Act} {w W' : World} {Q : Exit → Act → World → Prop} (hgd : o.guard = none) (s x : Operand) (t : TypeId)
    (ho : o.op = .call { callee := .builtin .append, args := #[s, x], argTypes := #[t, t] }) {vs vx r : Value} (hs : a.eval s = vs) (hx : a.eval x = vx)
    (hrun : (Builtin.append_ #[t, t] o.type #[vs, vx]).run P w = .ok r W') (h : wpList P ops Q rest (a.put o.dst r) W') : wpList P ops Q (o :: rest) a w :=
  wpList_plain hgd fun _ hK => by
    unfold Oper.wp execOp
    simp only [ho, resolve, invoke, builtin, Sem.run_bind, Sem.run_pure, Result.andThen_ok, List.map_toArray, List.map_cons, List.map_nil, hs, hx, hrun]
    exact hK _ _ h

theorem byteAt_list {bs : List Nat} {j : Nat} {u : Value} (h : (bs.map fun b => Value.int .u8 ((b : Nat) : Int))[j]? = some u) : u = byteAt bs j ∧ j < bs.length := by
  rw [List.getElem?_map] at h
  cases hb : bs[j]? with
  | none => rw [hb] at h; cases h
  | some b =>
    rw [hb] at h
    have hu := Option.some.inj h
    have hl : j < bs.length := by
      rcases Nat.lt_or_ge j bs.length with h' | h'
      · exact h'
      · rw [List.getElem?_eq_none h'] at hb; cases hb
    refine ⟨?_, hl⟩
    rw [← hu]
    unfold byteAt
    rw [List.getD_eq_getElem?_getD, hb]
    rfl

/-- A row of the call's own at block g: the bytes, then j marks, then others; below g all is as it was. -/
structure Lent (w wr : World) (n j : Nat) (bs : List Nat) : Prop where
  below : Below w.heap.size w wr
  row : ∃ cur, wr.heap[w.heap.size]? = some (.cells cur 5 (0, 0)) ∧ cur.size = n + 3 ∧ (∀ k, k < n → cur[k]? = some (byteAt bs k)) ∧ (∀ k, k < j → cur[n + k]? = some (.int .u8 119))
theorem Lent.lt {w wr : World} {n j : Nat} {bs : List Nat} (h : Lent w wr n j bs) : w.heap.size < wr.heap.size := by
  obtain ⟨cur, e, _⟩ := h.row
  exact (Array.getElem?_eq_some_iff.1 e).1
theorem Lent.cell {w wr : World} {n j : Nat} {bs : List Nat} (h : Lent w wr n j bs) (k : Nat) (hk : k < 3) : ∃ u, wr.cell? ⟨w.heap.size, n + k, none⟩ = some u := by
  obtain ⟨cur, e, hs, _, _⟩ := h.row
  exact ⟨cur[n + k]'(by omega), by rw [cell_of_row _ _ _ cur 5 (0, 0) e]; exact Array.getElem?_eq_getElem (by omega)⟩
theorem Lent.free {w wr : World} {n j : Nat} {bs : List Nat} (h : Lent w wr n j bs) (k : Nat) : wr.frozen? ⟨w.heap.size, k, none⟩ = false := by
  obtain ⟨cur, e, _⟩ := h.row
  simp [World.frozen?, e]
theorem Lent.mark {w wr : World} {n j : Nat} {bs : List Nat} (h : Lent w wr n j bs) (k : Nat) (hk : k < j) : wr.cell? ⟨w.heap.size, n + k, none⟩ = some (.int .u8 119) := by
  obtain ⟨cur, e, hs, _, hm⟩ := h.row
  rw [cell_of_row _ _ _ cur 5 (0, 0) e]; exact hm k hk
theorem Lent.bytes {w wr : World} {n j : Nat} {bs : List Nat} (h : Lent w wr n j bs) {B : Nat} (hB : w.heap.size < B) (hl : bs.length = n) (hsm : ∀ k, bs.getD k 0 < 256) : Bytes wr B (some ⟨w.heap.size, 0, none⟩) n bs := by
  obtain ⟨cur, e, hs, hb, _⟩ := h.row
  refine ⟨hl, fun k hk => ⟨_, rfl, hB, ?_⟩, hsm⟩
  rw [add_zero_addr, cell_of_row _ _ _ cur 5 (0, 0) e]
  exact hb k hk
theorem Lent.step {w wr : World} {n j : Nat} {bs : List Nat} (h : Lent w wr n j bs) (hj : j < 3) : Lent w (wr.setCell ⟨w.heap.size, n + j, none⟩ (.int .u8 119)) n (j + 1) bs := by
  obtain ⟨cur, e, hs, hb, hm⟩ := h.row
  refine ⟨h.below.setCell (Nat.le_refl _) _, cur.setIfInBounds (n + j) (.int .u8 119), ?_, by simpa using hs, fun k hk => ?_, fun k hk => ?_⟩
  · simp [World.setCell, Array.getElem?_modify, e]
  · rw [Array.getElem?_setIfInBounds_ne (by omega)]; exact hb k hk
  · by_cases hkj : k = j
    · subst hkj
      rw [Array.getElem?_setIfInBounds_self_of_lt (by omega)]
    · rw [Array.getElem?_setIfInBounds_ne (by omega)]; exact hm k (by omega)

theorem make_run (n : Nat) (hn : n ≤ 300) (W : World) : (Instr.makeSlice 24 (.int .i64 0) (.int .i64 ((n : Int) + 3))).run Tryd.prog W =
    .ok (.slice (some ⟨W.heap.size, 0, none⟩) 0 (n + 3)) (W.alloc (.cells (madeCells #[.int .u8 0] (n + 3)) 5)) := by
  obtain ⟨i0, hi, hz0, hz1, hz2⟩ := info_parts info5
  have h := run_make (P := Tryd.prog) W 24 5 i0 _ Tryd.underlying24 hi hz0 .i64 .i64 0 ((n : Int) + 3) (by omega) (by omega) (by rw [hz2]; omega) (by omega)
  rw [h, hz1]
  have e : ((n : Int) + 3).toNat = n + 3 := by omega
  rw [e, Nat.mul_one]
  rfl
theorem append_run (A : Option Addr) (n c : Nat) (bs : List Nat) (w : World) (hA : Bytes w w.heap.size A n bs) :
    ∃ W2, (∀ ty, (Builtin.append_ #[24, 24] ty #[.slice (some ⟨w.heap.size, 0, none⟩) 0 (n + 3), .slice A n c]).run Tryd.prog (w.alloc (.cells (madeCells #[.int .u8 0] (n + 3)) 5)) =
      .ok (.slice (some ⟨w.heap.size, 0, none⟩) n (n + 3)) W2) ∧ Lent w W2 n 0 bs := by
  obtain ⟨i0, hi, hz0, hz1, hz2⟩ := info_parts info5
  have hnew := heap_alloc_new w (.cells (madeCells #[.int .u8 0] (n + 3)) 5)
  have hsz := size_madeCells #[Value.int .u8 0] (n + 3)
  rcases A with _ | ad
  · have hn0 : n = 0 := by
      rcases Nat.eq_zero_or_pos n with h | h
      · exact h
      · obtain ⟨ad, h', _⟩ := hA.lies 0 h
        cases h'
    subst hn0
    refine ⟨_, fun ty => ?_, ⟨(Below.refl _ _).alloc (Nat.le_refl _) _, _, hnew, hsz, fun k hk => absurd hk (Nat.not_lt_zero k), fun k hk => absurd hk (Nat.not_lt_zero k)⟩⟩
    simp [Builtin.append_, run_underlying Tryd.underlying24, sizeOf, typeInfo, hi, Builtin.lenOf, Builtin.firstCells, storeCells]
  · have hlen := hA.len
    have hcells : ∀ j u, (bs.map fun b => Value.int .u8 ((b : Nat) : Int))[j]? = some u → (w.alloc (.cells (madeCells #[.int .u8 0] (n + 3)) 5)).cell? (ad.add j) = some u := by
      intro j u hu
      obtain ⟨hu', hj⟩ := byteAt_list hu
      obtain ⟨ad', e1, e2, e3⟩ := hA.lies j (by omega)
      obtain rfl := Option.some.inj e1
      rw [World.cell?_alloc_lt w _ (ad.add j) (by rw [addr_block]; exact e2), e3, hu']
    have h1 : ∀ u ∈ (bs.map fun b => Value.int .u8 ((b : Nat) : Int)), u.oneCell' = true := by
      intro u hu
      obtain ⟨b, _, rfl⟩ := List.mem_map.1 hu
      rfl
    have hl : (bs.map fun b => Value.int .u8 ((b : Nat) : Int)).length = n * i0.size := by rw [hz1]; simp [hlen]
    have hr := fun ty => run_append_room (P := Tryd.prog) (w.alloc (.cells (madeCells #[.int .u8 0] (n + 3)) 5)) 24 ty 5 i0 Tryd.underlying24 hi w.heap.size 0 (n + 3) _ hnew ad n c (bs.map fun b => Value.int .u8 ((b : Nat) : Int)) hl hcells h1 (by omega) (by rw [hsz]; simp [hlen])
    simp only [Nat.zero_add] at hr
    refine ⟨_, hr, below_setRow ((Below.refl _ _).alloc (Nat.le_refl _) _) (Nat.le_refl _) _, _, setRow_heap _ _ _ _ _ _ hnew, ?_, fun k hk => ?_, fun k hk => absurd hk (Nat.not_lt_zero k)⟩
    · simp [hsz, hlen]
    · have hkl : k < bs.length := by omega
      simp only [Nat.zero_mul, List.take_zero, List.nil_append, List.getElem?_toArray]
      rw [List.getElem?_append_left (by simpa using hkl), List.getElem?_map, List.getElem?_eq_getElem hkl]
      simp [byteAt, List.getD_eq_getElem?_getD, List.getElem?_eq_getElem hkl]

set_option maxHeartbeats 1000000 in
theorem lend_any (A : Option Addr) (n c : Nat) (bs : List Nat) (w : World) (hn : n ≤ 300) (hA : Bytes w w.heap.size A n bs) :
    Calls Tryd.prog 10 #[.slice A n c] w fun e w' => e = .returned (.slice (some ⟨w.heap.size, 0, none⟩) n (n + 3)) ∧ Lent w w' n 3 bs := by
  obtain ⟨W2, happ', hL⟩ := append_run A n c bs w hA
  have hmk := make_run n hn
  have happ := Lib.hid happ'
  have HL := Lib.hid hL
  have h3 : n + 3 - n = 3 := by omega
  clear happ' hL hA
  go_enter Tryd.func10, Tryd.ntmps10
  go_wp2_with (at_builtin; refine wpList_append_run rfl (.tmp 10) (.tmp 11) 24 rfl rfl rfl (happ.out _) ?_)
  clear hmk happ h3
  go_loopw [5] (fun t5 wr => ∃ j : Nat, j ≤ 3 ∧ t5 = .int .i64 j ∧ Hid (Lent w wr n j bs)) (fun t5 _ => 3 - (intOf t5).toNat)
  case atStart => exact ⟨0, by omega, rfl, HL⟩
  case round =>
    obtain ⟨j, hj, rfl, HJ⟩ := hrel
    by_cases hlt : j < 3
    · obtain ⟨u, hc⟩ := HJ.out.cell j hlt
      have hf := HJ.out.free (n + j)
      go_wp2
      go_roundw
      case rel => exact ⟨j + 1, by omega, by go_num, HJ.out.step hlt⟩
      case measure => simp [intOf]; omega
    · have hj3 : j = 3 := by omega
      rw [hj3] at HJ
      clear hj3
      go_wp2
      go_ret
      exact ⟨rfl, HJ.out⟩

set_option maxHeartbeats 1000000 in
theorem kept_any (A : Option Addr) (n c : Nat) (bs : List Nat) (w wr : World) (hn : n ≤ 300) (hL : Lent w wr n 3 bs) (hl : bs.length = n) (hsm : ∀ k, bs.getD k 0 < 256) (hA : Bytes wr wr.heap.size A n bs) :
    Calls Tryd.prog 15 #[.slice (some ⟨w.heap.size, 0, none⟩) n (n + 3), .slice A n c] wr fun e w' => e = .returned (.bool true) ∧ ∃ m, w' = wr.drewN m := by
  have m0 := hL.mark 0 (by omega)
  have m1 := hL.mark 1 (by omega)
  have m2 := hL.mark 2 (by omega)
  have hB := hL.bytes hL.lt hl hsm
  have hs := same_yes (some ⟨w.heap.size, 0, none⟩) A n (n + 3) c bs wr (by omega) hB hA
  have HS := Lib.hid hs
  have HL := Lib.hid hL
  have h3 : n + 3 - n = 3 := by omega
  clear hl hsm hA hB hs hL
  go_enter Tryd.func15, Tryd.ntmps15
  go_wp2
  clear h3
  go_loop [6] (fun t6 => ∃ j : Nat, j ≤ 3 ∧ t6 = .int .i64 j) (fun t6 => 3 - (intOf t6).toNat)
  case atStart => exact ⟨0, by omega, rfl⟩
  case round =>
    obtain ⟨j, hj, rfl⟩ := hrel
    by_cases hlt : j < 3
    · have hc := HL.out.mark j hlt
      go_wp2
      go_round
      case rel => exact ⟨j + 1, by omega, by go_num⟩
      case measure => simp [intOf]; omega
    · go_wp2_with fail
      refine HS.out.mono ?_
      rintro e w' ⟨rfl, m, hw⟩
      obtain rfl : w' = _ := hw
      go_wp2_with fail
      go_ret
      exact ⟨rfl, _, rfl⟩
end Go.Proofs.YteglhfimmbphmaaDoor
