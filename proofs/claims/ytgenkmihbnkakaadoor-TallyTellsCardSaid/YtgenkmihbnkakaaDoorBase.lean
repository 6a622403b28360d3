/- Words for memory: slices whose cells are known, nil included; slices of bytes, and of those; rows of the call's own; appends; slice expressions. No conditions. -/
import Derived.Test.YtgenkmihbnkakaaDoorProg
import Derived.WalkKit
import Derived.Below
import Derived.Laws.OwnMore
import Derived.Deep.AppendLies
import Derived.Deep.Draws
import Derived.LoopTactic
import Derived.BigQuiet
import Derived.Deep.QuietTactic
import Derived.Outline
import Derived.Lib.Hide
import Derived.Laws.BitsAllLaws
import Derived.Laws.MakeOwn
import Derived.Laws.AppendOwn
import Derived.Laws.CopyOwn
import Derived.OwnWalk
import Derived.OpenShut
set_option linter.unusedVariables false
set_option linter.unusedSimpArgs false
set_option maxRecDepth 20000
namespace Go.Proofs.YtgenkmihbnkakaaDoor
open Go.RowKit

theorem addr_block (a : Addr) (n : Nat) : (a.add n).block = a.block := by unfold Addr.add; split <;> rfl
theorem addr_add (a : Addr) (i j : Nat) : (a.add i).add j = a.add (i + j) := by
  unfold Addr.add
  by_cases hi : i = 0 <;> by_cases hj : j = 0 <;> simp [hi, hj, Nat.add_assoc]

/-- The first n places from A on hold f, and lie below block B. -/
def Lies (w : World) (B : Nat) (A : Option Addr) (n : Nat) (f : Nat → Value) : Prop :=
  ∀ k, k < n → ∃ ad, A = some ad ∧ ad.block < B ∧ w.cell? (ad.add k) = some (f k)
section
variable {w w' : World} {B B' n : Nat} {A : Option Addr} {f g : Nat → Value}
theorem Lies.zero : Lies w B A 0 f := fun k hk => absurd hk (Nat.not_lt_zero k)
theorem Lies.same (h : Lies w B A n f) (e : ∀ k, k < n → f k = g k) : Lies w B A n g := fun k hk => by
  obtain ⟨ad, e1, e2, e3⟩ := h k hk
  exact ⟨ad, e1, e2, by rw [e3, e k hk]⟩
theorem Lies.kept (h : Lies w B A n f) (e : ∀ p : Addr, p.block < B → w'.cell? p = w.cell? p) : Lies w' B A n f := fun k hk => by
  obtain ⟨ad, e1, e2, e3⟩ := h k hk
  exact ⟨ad, e1, e2, (e _ (by rw [addr_block]; exact e2)).trans e3⟩
theorem Lies.wider (h : Lies w B A n f) (hB : B ≤ B') : Lies w B' A n f := fun k hk => by
  obtain ⟨ad, e1, e2, e3⟩ := h k hk
  exact ⟨ad, e1, Nat.lt_of_lt_of_le e2 hB, e3⟩
theorem Lies.below (h : Lies w B A n f) (hb : Below B w w') : Lies w' B A n f := h.kept fun _ hp => hb.cell hp
theorem Lies.drewN (h : Lies w B A n f) (m : Nat) : Lies (w.drewN m) B A n f := h
theorem Lies.alloc (h : Lies w B A n f) (hB : B ≤ w.heap.size) (o : Obj) : Lies (w.alloc o) B A n f := h.kept fun p hp => World.cell?_alloc_lt w o p (by omega)
theorem Lies.fewer {m : Nat} (h : Lies w B A n f) (hm : m ≤ n) : Lies w B A m f := fun k hk => h k (by omega)
/-- A slice expression's address: the model keeps the old one where the whole capacity is passed by. -/
theorem Lies.behind {k cap : Nat} (h : Lies w B A n f) (hk : k ≤ n) (hc : n ≤ cap) : Lies w B (if cap = k then A else A.map (·.add (k * 1))) (n - k) (fun j => f (k + j)) := fun j hj => by
  obtain ⟨ad, e1, e2, e3⟩ := h (k + j) (by omega)
  rw [if_neg (by omega), e1]
  exact ⟨ad.add (k * 1), rfl, by rw [addr_block]; exact e2, by rw [addr_add, Nat.mul_one]; exact e3⟩
end

/- a slice of bytes -/
def byteAt (bs : List Nat) (k : Nat) : Value := .int .u8 ((bs.getD k 0 : Nat) : Int)
structure Bytes (w : World) (B : Nat) (A : Option Addr) (n : Nat) (bs : List Nat) : Prop where
  len : bs.length = n
  lies : Lies w B A n (byteAt bs)
  small : ∀ k, bs.getD k 0 < 256
section
variable {w w' : World} {B B' n : Nat} {A : Option Addr} {bs : List Nat}
theorem Bytes.at_ {k : Nat} (h : Bytes w B A n bs) (hk : k < n) : ∃ ad, A = some ad ∧ ad.block < B ∧ w.cell? (ad.add k) = some (.int .u8 ((bs.getD k 0 : Nat) : Int)) := h.lies k hk
theorem Bytes.below (h : Bytes w B A n bs) (hb : Below B w w') : Bytes w' B A n bs := ⟨h.len, h.lies.below hb, h.small⟩
theorem Bytes.drewN (h : Bytes w B A n bs) (k : Nat) : Bytes (w.drewN k) B A n bs := ⟨h.len, h.lies.drewN k, h.small⟩
theorem Bytes.wider (h : Bytes w B A n bs) (hB : B ≤ B') : Bytes w B' A n bs := ⟨h.len, h.lies.wider hB, h.small⟩
theorem Bytes.alloc (h : Bytes w B A n bs) (hB : B ≤ w.heap.size) (o : Obj) : Bytes (w.alloc o) B A n bs := ⟨h.len, h.lies.alloc hB o, h.small⟩
theorem Bytes.none_ : Bytes w B A 0 [] := ⟨rfl, Lies.zero, fun k => by simp⟩
end

theorem ret_int {k : IntKind} {a b : Int} (h : a = b) : Ending.returned (.int k a) = .returned (.int k b) := by rw [h]
/-- A slice of slices of bytes. -/
structure Parts (w : World) (B : Nat) (A : Option Addr) (n : Nat) (ps : List (List Nat)) : Prop where
  len : ps.length = n
  each : ∀ k, k < n → ∃ ad A' n' c', A = some ad ∧ ad.block < B ∧ w.cell? (ad.add k) = some (.slice A' n' c') ∧ n' ≤ 9223372036854775807 ∧ Bytes w B A' n' (ps.getD k [])
theorem Parts.none_ {w : World} {B : Nat} {A : Option Addr} : Parts w B A 0 [] := ⟨rfl, fun k hk => absurd hk (Nat.not_lt_zero k)⟩
theorem Parts.below {w w' : World} {B n : Nat} {A : Option Addr} {ps : List (List Nat)} (h : Parts w B A n ps) (hb : Below B w w') : Parts w' B A n ps :=
  ⟨h.len, fun k hk => by
    obtain ⟨ad, A', n', c', e1, e2, e3, e4, e5⟩ := h.each k hk
    exact ⟨ad, A', n', c', e1, e2, (hb.cell (p := ad.add k) (by rw [addr_block]; exact e2)).trans e3, e4, e5.below hb⟩⟩
theorem Parts.wider {w : World} {B B' n : Nat} {A : Option Addr} {ps : List (List Nat)} (h : Parts w B A n ps) (hB : B ≤ B') : Parts w B' A n ps :=
  ⟨h.len, fun k hk => by
    obtain ⟨ad, A', n', c', e1, e2, e3, e4, e5⟩ := h.each k hk
    exact ⟨ad, A', n', c', e1, Nat.lt_of_lt_of_le e2 hB, e3, e4, e5.wider hB⟩⟩
theorem Parts.drewN {w : World} {B n : Nat} {A : Option Addr} {ps : List (List Nat)} (h : Parts w B A n ps) (m : Nat) : Parts (w.drewN m) B A n ps :=
  ⟨h.len, fun k hk => by
    obtain ⟨ad, A', n', c', e1, e2, e3, e4, e5⟩ := h.each k hk
    exact ⟨ad, A', n', c', e1, e2, e3, e4, e5.drewN m⟩⟩

theorem cell_new (W : World) (vs : Array Value) (t : TypeId) (z : Nat × Nat) (k : Nat) : (W.alloc (.cells vs t z)).cell? ⟨W.heap.size, k, none⟩ = vs[k]? :=
  cell_of_row _ _ k vs t z (heap_alloc_new W _)
theorem add_zero_addr (b k : Nat) : (⟨b, 0, none⟩ : Addr).add k = ⟨b, k, none⟩ := by
  unfold Addr.add
  split
  · next h => simp_all
  · simp
/-- A new row of slices of bytes. -/
theorem parts_new {W : World} (vs : Array Value) (z : Nat × Nat) (t : TypeId) (n : Nat) (ps : List (List Nat)) (hn : n = vs.size) (hl : ps.length = n)
    (h : ∀ k, k < n → ∃ A' n' c', vs[k]? = some (.slice A' n' c') ∧ n' ≤ 9223372036854775807 ∧ Bytes W W.heap.size A' n' (ps.getD k [])) :
    Parts (W.alloc (.cells vs t z)) (W.alloc (.cells vs t z)).heap.size (some ⟨W.heap.size, 0, none⟩) n ps := by
  have hs : (W.alloc (.cells vs t z)).heap.size = W.heap.size + 1 := by simp
  refine ⟨hl, fun k hk => ?_⟩
  obtain ⟨A', n', c', e1, e2, e3⟩ := h k hk
  refine ⟨_, A', n', c', rfl, by rw [hs]; exact Nat.lt_succ_self _, ?_, e2, (e3.alloc (Nat.le_refl _) _).wider (by omega)⟩
  rw [add_zero_addr, cell_new, e1]
theorem below_drewN {B : Nat} {a w : World} (h : Below B a w) (n : Nat) : Below B a (w.drewN n) := ⟨h.os, h.tape, h.output, h.size, h.block⟩

theorem Bytes.since {w w' : World} {A : Option Addr} {n : Nat} {bs : List Nat} (h : Bytes w w.heap.size A n bs) (hb : Below w.heap.size w w') : Bytes w' w'.heap.size A n bs := (h.below hb).wider hb.size
theorem Parts.since {w w' : World} {A : Option Addr} {n : Nat} {ps : List (List Nat)} (h : Parts w w.heap.size A n ps) (hb : Below w.heap.size w w') : Parts w' w'.heap.size A n ps := (h.below hb).wider hb.size
theorem below_chain {w a b : World} (h : Below w.heap.size w a) (k : Below a.heap.size a b) : Below w.heap.size w b := h.trans (k.mono (by have := h.size; omega))

/-- Every cell that is there stays as it is. -/
def Kept (W w' : World) : Prop := ∀ b o v, W.cell? ⟨b, o, none⟩ = some v → w'.cell? ⟨b, o, none⟩ = some v
/-- What a call that keeps all old memory leaves. -/
def Leaves (w W : World) (v : Value) (e : Ending) (w' : World) : Prop := e = .returned v ∧ Below w.heap.size w w' ∧ Kept W w'
theorem leaves_of {w W w' : World} {v : Value} {e : Ending} (hS : Below w.heap.size w W) (he : e = .returned v) (hb : Below W.heap.size W w') : Leaves w W v e w' :=
  ⟨he, below_chain hS hb, fun b o v h => (hb.cell (p := ⟨b, o, none⟩) (World.block_lt_of_cell? W _ h)).trans h⟩
theorem since_alloc {w W : World} (h : Below w.heap.size w W) (o : Obj) : Below w.heap.size w (W.alloc o) := h.alloc h.size o
theorem since_drew {w W : World} (h : Below w.heap.size w W) : Below w.heap.size w W.drew := h.drew
theorem cell_first {W : World} {vs : Array Value} {t : TypeId} {z : Nat × Nat} {k : Nat} {v : Value} (h : vs[k]? = some v) : (W.alloc (.cells vs t z)).cell? ⟨W.heap.size, k, none⟩ = some v := (cell_new W vs t z k).trans h
theorem cell_first_at {W : World} {vs : Array Value} {t : TypeId} {z : Nat × Nat} {g k : Nat} {v : Value} (hg : g = W.heap.size) (h : vs[k]? = some v) : (W.alloc (.cells vs t z)).cell? ⟨g, k, none⟩ = some v := by
  subst hg
  exact cell_first h
theorem cell_drew {W : World} {a : Addr} {v : Value} (h : W.cell? a = some v) : W.drew.cell? a = some v := h
theorem cell_old {W : World} {o : Obj} {a : Addr} {v : Value} (h : W.cell? a = some v) : (W.alloc o).cell? a = some v := (World.cell?_alloc_lt _ _ _ (World.block_lt_of_cell? W a h)).trans h
theorem cell_kept {W w' : World} {b o : Nat} {v : Value} (h : Kept W w') (hc : W.cell? ⟨b, o, none⟩ = some v) : w'.cell? ⟨b, o, none⟩ = some v := h b o v hc
theorem info5 : (Tryd.prog.info? 5).map (fun i => (i.zero, i.size, i.bytes)) = some (some (.int .u8 0), 1, 1) := by kernel_rfl

/-- An append whose run is known. -/
theorem wpList_append_run {P : Program} {ops : Array Oper} {rest : List Oper} {o : Oper} {a : Act} {w W' : World} {Q : Exit → Act → World → Prop} (hgd : o.guard = none) (s x : Operand) (t : TypeId)
    (ho : o.op = .call { callee := .builtin .append, args := #[s, x], argTypes := #[t, t] }) {vs vx r : Value} (hs : a.eval s = vs) (hx : a.eval x = vx)
    (hrun : (Builtin.append_ #[t, t] o.type #[vs, vx]).run P w = .ok r W') (h : wpList P ops Q rest (a.put o.dst r) W') : wpList P ops Q (o :: rest) a w :=
  wpList_plain hgd fun _ hK => by
    unfold Oper.wp execOp
    simp only [ho, resolve, invoke, builtin, Sem.run_bind, Sem.run_pure, Result.andThen_ok, List.map_toArray, List.map_cons, List.map_nil, hs, hx, hrun]
    exact hK _ _ h

theorem byteAt_list {bs : List Nat} {j : Nat} {u : Value} (h : (bs.map fun b => Value.int .u8 ((b : Nat) : Int))[j]? = some u) : u = byteAt bs j ∧ j < bs.length := by
  rw [List.getElem?_map] at h
  cases hb : bs[j]? with
  | none => rw [hb] at h; cases h
  | some b =>
    rw [hb] at h
    have hu := Option.some.inj h
    have hl : j < bs.length := by
      rcases Nat.lt_or_ge j bs.length with h' | h'
      · exact h'
      · rw [List.getElem?_eq_none h'] at hb; cases hb
    refine ⟨?_, hl⟩
    rw [← hu]
    unfold byteAt
    rw [List.getD_eq_getElem?_getD, hb]
    rfl

/-- A row of the call's own at block g: the bytes, then j marks, then others; below g all is as it was. -/
structure Lent (w wr : World) (n j : Nat) (bs : List Nat) : Prop where
  below : Below w.heap.size w wr
  row : ∃ cur, wr.heap[w.heap.size]? = some (.cells cur 5 (0, 0)) ∧ cur.size = n + 3 ∧ (∀ k, k < n → cur[k]? = some (byteAt bs k)) ∧ (∀ k, k < j → cur[n + k]? = some (.int .u8 119))
theorem Lent.lt {w wr : World} {n j : Nat} {bs : List Nat} (h : Lent w wr n j bs) : w.heap.size < wr.heap.size := by
  obtain ⟨cur, e, _⟩ := h.row
  exact (Array.getElem?_eq_some_iff.1 e).1
theorem Lent.cell {w wr : World} {n j : Nat} {bs : List Nat} (h : Lent w wr n j bs) (k : Nat) (hk : k < 3) : ∃ u, wr.cell? ⟨w.heap.size, n + k, none⟩ = some u := by
  obtain ⟨cur, e, hs, _, _⟩ := h.row
  exact ⟨cur[n + k]'(by omega), by rw [cell_of_row _ _ _ cur 5 (0, 0) e]; exact Array.getElem?_eq_getElem (by omega)⟩
theorem Lent.free {w wr : World} {n j : Nat} {bs : List Nat} (h : Lent w wr n j bs) (k : Nat) : wr.frozen? ⟨w.heap.size, k, none⟩ = false := by
  obtain ⟨cur, e, _⟩ := h.row
  simp [World.frozen?, e]
theorem Lent.mark {w wr : World} {n j : Nat} {bs : List Nat} (h : Lent w wr n j bs) (k : Nat) (hk : k < j) : wr.cell? ⟨w.heap.size, n + k, none⟩ = some (.int .u8 119) := by
  obtain ⟨cur, e, hs, _, hm⟩ := h.row
  rw [cell_of_row _ _ _ cur 5 (0, 0) e]; exact hm k hk
theorem Lent.bytes {w wr : World} {n j : Nat} {bs : List Nat} (h : Lent w wr n j bs) {B : Nat} (hB : w.heap.size < B) (hl : bs.length = n) (hsm : ∀ k, bs.getD k 0 < 256) : Bytes wr B (some ⟨w.heap.size, 0, none⟩) n bs := by
  obtain ⟨cur, e, hs, hb, _⟩ := h.row
  refine ⟨hl, fun k hk => ⟨_, rfl, hB, ?_⟩, hsm⟩
  rw [add_zero_addr, cell_of_row _ _ _ cur 5 (0, 0) e]
  exact hb k hk
theorem Lent.step {w wr : World} {n j : Nat} {bs : List Nat} (h : Lent w wr n j bs) (hj : j < 3) : Lent w (wr.setCell ⟨w.heap.size, n + j, none⟩ (.int .u8 119)) n (j + 1) bs := by
  obtain ⟨cur, e, hs, hb, hm⟩ := h.row
  refine ⟨h.below.setCell (Nat.le_refl _) _, cur.setIfInBounds (n + j) (.int .u8 119), ?_, by simpa using hs, fun k hk => ?_, fun k hk => ?_⟩
  · simp [World.setCell, Array.getElem?_modify, e]
  · rw [Array.getElem?_setIfInBounds_ne (by omega)]; exact hb k hk
  · by_cases hkj : k = j
    · subst hkj
      rw [Array.getElem?_setIfInBounds_self_of_lt (by omega)]
    · rw [Array.getElem?_setIfInBounds_ne (by omega)]; exact hm k (by omega)

theorem make_run (n : Nat) (hn : n ≤ 900) (W : World) : (Instr.makeSlice 52 (.int .i64 0) (.int .i64 ((n : Int) + 3))).run Tryd.prog W =
    .ok (.slice (some ⟨W.heap.size, 0, none⟩) 0 (n + 3)) (W.alloc (.cells (madeCells #[.int .u8 0] (n + 3)) 5)) := by
  obtain ⟨i0, hi, hz0, hz1, hz2⟩ := info_parts info5
  have h := run_make (P := Tryd.prog) W 52 5 i0 _ Tryd.underlying52 hi hz0 .i64 .i64 0 ((n : Int) + 3) (by omega) (by omega) (by rw [hz2]; omega) (by omega)
  rw [h, hz1]
  have e : ((n : Int) + 3).toNat = n + 3 := by omega
  rw [e, Nat.mul_one]
  rfl
theorem append_run (A : Option Addr) (n c : Nat) (bs : List Nat) (w : World) (hA : Bytes w w.heap.size A n bs) :
    ∃ W2, (∀ ty, (Builtin.append_ #[52, 52] ty #[.slice (some ⟨w.heap.size, 0, none⟩) 0 (n + 3), .slice A n c]).run Tryd.prog (w.alloc (.cells (madeCells #[.int .u8 0] (n + 3)) 5)) =
      .ok (.slice (some ⟨w.heap.size, 0, none⟩) n (n + 3)) W2) ∧ Lent w W2 n 0 bs := by
  obtain ⟨i0, hi, hz0, hz1, hz2⟩ := info_parts info5
  have hnew := heap_alloc_new w (.cells (madeCells #[.int .u8 0] (n + 3)) 5)
  have hsz := size_madeCells #[Value.int .u8 0] (n + 3)
  rcases A with _ | ad
  · have hn0 : n = 0 := by
      rcases Nat.eq_zero_or_pos n with h | h
      · exact h
      · obtain ⟨ad, h', _⟩ := hA.lies 0 h
        cases h'
    subst hn0
    refine ⟨_, fun ty => ?_, ⟨(Below.refl _ _).alloc (Nat.le_refl _) _, _, hnew, hsz, fun k hk => absurd hk (Nat.not_lt_zero k), fun k hk => absurd hk (Nat.not_lt_zero k)⟩⟩
    simp [Builtin.append_, run_underlying Tryd.underlying52, sizeOf, typeInfo, hi, Builtin.lenOf, Builtin.firstCells, storeCells]
  · have hlen := hA.len
    have hcells : ∀ j u, (bs.map fun b => Value.int .u8 ((b : Nat) : Int))[j]? = some u → (w.alloc (.cells (madeCells #[.int .u8 0] (n + 3)) 5)).cell? (ad.add j) = some u := by
      intro j u hu
      obtain ⟨hu', hj⟩ := byteAt_list hu
      obtain ⟨ad', e1, e2, e3⟩ := hA.lies j (by omega)
      obtain rfl := Option.some.inj e1
      rw [World.cell?_alloc_lt w _ (ad.add j) (by rw [addr_block]; exact e2), e3, hu']
    have h1 : ∀ u ∈ (bs.map fun b => Value.int .u8 ((b : Nat) : Int)), u.oneCell' = true := by
      intro u hu
      obtain ⟨b, _, rfl⟩ := List.mem_map.1 hu
      rfl
    have hl : (bs.map fun b => Value.int .u8 ((b : Nat) : Int)).length = n * i0.size := by rw [hz1]; simp [hlen]
    have hr := fun ty => run_append_room (P := Tryd.prog) (w.alloc (.cells (madeCells #[.int .u8 0] (n + 3)) 5)) 52 ty 5 i0 Tryd.underlying52 hi w.heap.size 0 (n + 3) _ hnew ad n c (bs.map fun b => Value.int .u8 ((b : Nat) : Int)) hl hcells h1 (by omega) (by rw [hsz]; simp [hlen])
    simp only [Nat.zero_add] at hr
    refine ⟨_, hr, below_setRow ((Below.refl _ _).alloc (Nat.le_refl _) _) (Nat.le_refl _) _, _, setRow_heap _ _ _ _ _ _ hnew, ?_, fun k hk => ?_, fun k hk => absurd hk (Nat.not_lt_zero k)⟩
    · simp [hsz, hlen]
    · have hkl : k < bs.length := by omega
      simp only [Nat.zero_mul, List.take_zero, List.nil_append, List.getElem?_toArray]
      rw [List.getElem?_append_left (by simpa using hkl), List.getElem?_map, List.getElem?_eq_getElem hkl]
      simp [byteAt, List.getD_eq_getElem?_getD, List.getElem?_eq_getElem hkl]

theorem Lent.since {w wr w' : World} {n j : Nat} {bs : List Nat} (h : Lent w wr n j bs) (hb : Below wr.heap.size wr w') : Lent w w' n j bs := by
  refine ⟨h.below.trans (hb.mono (Nat.le_of_lt h.lt)), ?_⟩
  obtain ⟨cur, e, rest⟩ := h.row
  exact ⟨cur, (hb.block _ h.lt).trans e, rest⟩
def cellsOf (bs : List Nat) : List Value := bs.map fun b => Value.int .u8 ((b : Nat) : Int)
theorem own_bytes {W : World} {base n : Nat} {A : Option Addr} {c : Nat} {bs : List Nat} (h : W.ownsRow base 5 1 (.slice A n c) n (cellsOf bs)) (hsm : ∀ k, bs.getD k 0 < 256) : Bytes W W.heap.size A n bs := by
  have hl : bs.length = n := by have := h.1; simpa [cellsOf] using this
  refine ⟨hl, fun k hk => ?_, hsm⟩
  rcases h.2 with ⟨hv, hn⟩ | ⟨g, cap, cur, hv, _, hg, _⟩
  · omega
  · have hA : A = some ⟨g, 0, none⟩ := by injection hv
    subst hA
    have hlt : g < W.heap.size := (Array.getElem?_eq_some_iff.1 hg).1
    refine ⟨_, rfl, hlt, ?_⟩
    have hkl : k < bs.length := by omega
    have := h.cells (g := g) rfl k (byteAt bs k) (by
      unfold cellsOf byteAt
      rw [List.getElem?_map, List.getElem?_eq_getElem hkl]
      simp [List.getD_eq_getElem?_getD, List.getElem?_eq_getElem hkl])
    exact this
theorem getD_append (a b : List Nat) (ha : ∀ k, a.getD k 0 < 256) (hb : ∀ k, b.getD k 0 < 256) (k : Nat) : (a ++ b).getD k 0 < 256 := by
  rw [List.getD_eq_getElem?_getD]
  by_cases h : k < a.length
  · rw [List.getElem?_append_left h]
    have := ha k
    rwa [List.getD_eq_getElem?_getD] at this
  · rw [List.getElem?_append_right (by omega)]
    have := hb (k - a.length)
    rwa [List.getD_eq_getElem?_getD] at this

set_option maxRecDepth 8000 in
theorem append_bytes_g (w W : World) (hS : Below w.heap.size w W) (v : Value) (n : Nat) (bs : List Nat) (hown : W.ownsRow w.heap.size 5 1 v n (cellsOf bs)) (A : Option Addr) (m c : Nat) (cs : List Nat)
    (hA : Bytes W W.heap.size A m cs) (hnm : n + m ≤ 8000) :
    ∃ A' c' W', (Builtin.append_ #[52, 52] 52 #[v, .slice A m c]).run Tryd.prog W = .ok (.slice A' (n + m) c') W' ∧ W'.ownsRow w.heap.size 5 1 (.slice A' (n + m) c') (n + m) (cellsOf (bs ++ cs)) ∧ Below w.heap.size w W' ∧ W.grownBy W' v.ownBlock := by
  obtain ⟨i0, hi, hz0, hz1, hz2⟩ := info_parts info5
  have hform : ∀ (v' : Value) (W' : World) (xs : List Value), W'.ownsRow w.heap.size 5 1 v' (n + m) xs → ∃ A' c', v' = .slice A' (n + m) c' := by
    intro v' W' xs h
    rcases h.2 with ⟨hv, hx⟩ | ⟨g, cap, cur, hv, _⟩
    · exact ⟨none, 0, by rw [hv, hx]⟩
    · exact ⟨_, _, hv⟩
  rcases A with _ | ad
  · have hm0 : m = 0 := by
      rcases Nat.eq_zero_or_pos m with h | h
      · exact h
      · obtain ⟨ad, h', _⟩ := hA.lies 0 h
        cases h'
    subst hm0
    have hcs : cs = [] := List.eq_nil_of_length_eq_zero hA.len
    subst hcs
    obtain ⟨A', c', rfl⟩ := hform v W _ hown
    refine ⟨A', c', W, ?_, by simpa using hown, hS, World.grownBy.refl _ _⟩
    rcases hown.2 with ⟨hv, hx⟩ | ⟨g, cap, cur, hv, _, _, hnc, _⟩
    · injection hv with h1 h2 h3
      subst h1 h3
      have hn0 : n = 0 := by omega
      subst hn0
      simp [Builtin.append_, run_underlying Tryd.underlying52, sizeOf, typeInfo, hi, Builtin.lenOf, Builtin.firstCells]
    · injection hv with h1 h2 h3
      subst h1 h3
      have hnc' : n ≤ c' := by omega
      simp [Builtin.append_, run_underlying Tryd.underlying52, sizeOf, typeInfo, hi, Builtin.lenOf, Builtin.firstCells, storeCells, hnc']
  · have hlen := hA.len
    have hcells : ∀ j u, (cellsOf cs)[j]? = some u → W.cell? (ad.add j) = some u := by
      intro j u hu
      obtain ⟨hu', hj⟩ := byteAt_list hu
      obtain ⟨ad', e1, e2, e3⟩ := hA.lies j (by omega)
      obtain rfl := Option.some.inj e1
      rw [e3, hu']
    have h1 : ∀ u ∈ cellsOf cs, u.oneCell' = true := by
      intro u hu
      obtain ⟨b, _, rfl⟩ := List.mem_map.1 hu
      rfl
    obtain ⟨v', W', hr, ho, hg, _⟩ := run_append_own (P := Tryd.prog) W w.heap.size 52 52 5 i0 _ 1 1 Tryd.underlying52 hi hz0 hz1 hz2 rfl (by omega) v n (cellsOf bs) hown ad m c (cellsOf cs) (by unfold cellsOf; simp [hlen]) hcells h1
      (by unfold maxLen; omega) (by omega) hS.size
    obtain ⟨A', c', rfl⟩ := hform v' W' _ ho
    refine ⟨A', c', W', hr, ?_, hS.grown hg hS.size (fun k hk => (hown.lt k hk).1), hg⟩
    have e : cellsOf (bs ++ cs) = cellsOf bs ++ cellsOf cs := by unfold cellsOf; rw [List.map_append]
    rw [e]; exact ho
theorem append_bytes (w W : World) (hS : Below w.heap.size w W) (v : Value) (n : Nat) (bs : List Nat) (hown : W.ownsRow w.heap.size 5 1 v n (cellsOf bs)) (A : Option Addr) (m c : Nat) (cs : List Nat)
    (hA : Bytes W W.heap.size A m cs) (hnm : n + m ≤ 8000) :
    ∃ A' c' W', (Builtin.append_ #[52, 52] 52 #[v, .slice A m c]).run Tryd.prog W = .ok (.slice A' (n + m) c') W' ∧ W'.ownsRow w.heap.size 5 1 (.slice A' (n + m) c') (n + m) (cellsOf (bs ++ cs)) ∧ Below w.heap.size w W' := by
  obtain ⟨A', c', W', h1, h2, h3, _⟩ := append_bytes_g w W hS v n bs hown A m c cs hA hnm
  exact ⟨A', c', W', h1, h2, h3⟩
/-- A row of the call's own, known whole in its first n places. -/
structure Mine (w W : World) (g n : Nat) (bs : List Nat) : Prop where
  below : Below w.heap.size w W
  new : w.heap.size ≤ g
  len : bs.length = n
  row : ∃ cur, W.heap[g]? = some (.cells cur 5 (0, 0)) ∧ n ≤ cur.size ∧ (∀ k, k < n → cur[k]? = some (byteAt bs k))
theorem Mine.lt {w W : World} {g n : Nat} {bs : List Nat} (h : Mine w W g n bs) : g < W.heap.size := by
  obtain ⟨cur, e, _⟩ := h.row
  exact (Array.getElem?_eq_some_iff.1 e).1
theorem Mine.cell {w W : World} {g n : Nat} {bs : List Nat} (h : Mine w W g n bs) {k : Nat} (hk : k < n) : W.cell? ⟨g, k, none⟩ = some (.int .u8 ((bs.getD k 0 : Nat) : Int)) := by
  obtain ⟨cur, e, _, hc⟩ := h.row
  rw [cell_of_row _ _ _ cur 5 (0, 0) e]
  exact hc k hk
theorem Mine.free {w W : World} {g n : Nat} {bs : List Nat} (h : Mine w W g n bs) (k : Nat) : W.frozen? ⟨g, k, none⟩ = false := by
  obtain ⟨cur, e, _⟩ := h.row
  simp [World.frozen?, e]
theorem Mine.bytes {w W : World} {g n : Nat} {bs : List Nat} (h : Mine w W g n bs) (hsm : ∀ k, bs.getD k 0 < 256) : Bytes W W.heap.size (some ⟨g, 0, none⟩) n bs :=
  ⟨h.len, fun k hk => ⟨_, rfl, h.lt, by rw [add_zero_addr]; exact h.cell hk⟩, hsm⟩
theorem Mine.set {w W : World} {g n : Nat} {bs : List Nat} (h : Mine w W g n bs) {i v : Nat} (hi : i < n) : Mine w (W.setCell ⟨g, i, none⟩ (.int .u8 (v : Int))) g n (bs.set i v) := by
  obtain ⟨cur, e, hs, hc⟩ := h.row
  refine ⟨h.below.setCell h.new _, h.new, by rw [List.length_set]; exact h.len, cur.setIfInBounds i (.int .u8 (v : Int)), ?_, by simpa using hs, fun k hk => ?_⟩
  · simp [World.setCell, Array.getElem?_modify, e]
  · have hkl : k < bs.length := by rw [h.len]; exact hk
    by_cases hki : k = i
    · subst hki
      rw [Array.getElem?_setIfInBounds_self_of_lt (by omega)]
      simp [byteAt, List.getD_eq_getElem?_getD, List.getElem?_set_self hkl]
    · rw [Array.getElem?_setIfInBounds_ne (by omega), hc k hk]
      simp [byteAt, List.getD_eq_getElem?_getD, List.getElem?_set_ne (show i ≠ k by omega)]
theorem mine_of {w W : World} {n : Nat} {A : Option Addr} {c : Nat} {bs : List Nat} (hS : Below w.heap.size w W) (h : W.ownsRow w.heap.size 5 1 (.slice A n c) n (cellsOf bs)) (hn : 0 < n) :
    ∃ g, A = some ⟨g, 0, none⟩ ∧ Mine w W g n bs := by
  have hl : bs.length = n := by have := h.1; simpa [cellsOf] using this
  rcases h.2 with ⟨hv, h0⟩ | ⟨g, cap, cur, hv, hb, hg, hnc, _, hsz, ht⟩
  · omega
  · have hA : A = some ⟨g, 0, none⟩ := by injection hv
    refine ⟨g, hA, hS, hb, hl, cur, hg, by omega, fun k hk => ?_⟩
    have hkl : k < bs.length := by omega
    have := (h.cells (g := g) (by rw [hA]; rfl) k (byteAt bs k) (by
      unfold cellsOf byteAt
      rw [List.getElem?_map, List.getElem?_eq_getElem hkl]
      simp [List.getD_eq_getElem?_getD, List.getElem?_eq_getElem hkl]))
    rw [add_zero_addr, cell_of_row _ _ _ cur 5 (0, 0) hg] at this
    exact this
/-- An append whose run is known, as one step of a region that draws. -/
theorem step_append_run {P : Program} {ops : Array Oper} {o : Oper} {a : Act} {w W' : World} {K : Act → World → Prop} {Q : Exit → Act → World → Prop} {E : Prop} (hg : o.guard = none) (s x : Operand) (t : TypeId)
    (ho : o.op = .call { callee := .builtin .append, args := #[s, x], argTypes := #[t, t] }) {vs vx r : Value} (hs : a.eval s = vs) (hx : a.eval x = vx)
    (hrun : (Builtin.append_ #[t, t] o.type #[vs, vx]).run P w = .ok r W') (hK : K (a.put o.dst r) W') : if Region.wanted o (yielded ops a.tmps) = true then Oper.wp P o a w K Q else E := by
  have hw : Region.wanted o (yielded ops a.tmps) = true := by simp [Region.wanted, hg]
  rw [if_pos hw]
  unfold Oper.wp execOp
  simp only [ho, resolve, invoke, builtin, Sem.run_bind, Sem.run_pure, Result.andThen_ok, List.map_toArray, List.map_cons, List.map_nil, hs, hx, hrun]
  exact hK
theorem elem24 : Tryd.prog.elem 52 = 5 := by kernel_rfl
theorem under24 : Tryd.prog.underlying 52 = some (.slice (Tryd.prog.elem 52)) := by rw [elem24]; exact Tryd.underlying52
theorem add_none (a : Addr) : a.add 0 = a := by unfold Addr.add; simp
theorem slice_to (A : Option Addr) (n c k : Nat) (hk : k ≤ n) (hc : n ≤ c) (W : World) :
    (Instr.slice 52 (.slice A n c) none (some (.int .i64 (k : Int))) none).run Tryd.prog W = .ok (.slice A k c) W := by
  obtain ⟨i0, hi, hz0, hz1, hz2⟩ := info_parts info5
  have h := run_slice_h (P := Tryd.prog) (w := W) 52 A n c under24 .i64 (k : Int) (by omega) (by omega)
  rw [h, elem24]
  cases A <;> simp [sizeOf, typeInfo, hi, hz1, sliced, add_none]
theorem slice_from (A : Option Addr) (n c k : Nat) (hk : k ≤ n) (W : World) :
    (Instr.slice 52 (.slice A n c) (some (.int .i64 (k : Int))) none none).run Tryd.prog W = .ok (.slice (if c = k then A else A.map (·.add (k * 1))) (n - k) (c - k)) W := by
  obtain ⟨i0, hi, hz0, hz1, hz2⟩ := info_parts info5
  have h := run_slice_l (P := Tryd.prog) (w := W) 52 A n c under24 .i64 (k : Int) (by omega) (by omega)
  rw [h, elem24]
  simp [sizeOf, typeInfo, hi, hz1, sliced]

theorem getD_take (bs : List Nat) (k j : Nat) (h : j < k) : (bs.take k).getD j 0 = bs.getD j 0 := by
  rw [List.getD_eq_getElem?_getD, List.getD_eq_getElem?_getD, List.getElem?_take_of_lt h]
theorem Bytes.first {w : World} {B : Nat} {A : Option Addr} {n : Nat} {bs : List Nat} (h : Bytes w B A n bs) {k : Nat} (hk : k ≤ n) : Bytes w B A k (bs.take k) :=
  ⟨by rw [List.length_take, h.len]; omega, fun j hj => by
    obtain ⟨ad, e1, e2, e3⟩ := h.lies j (by omega)
    exact ⟨ad, e1, e2, by rw [e3]; unfold byteAt; rw [getD_take _ _ _ hj]⟩,
   fun j => by
    by_cases hj : j < k
    · rw [getD_take _ _ _ hj]; exact h.small j
    · rw [List.getD_eq_getElem?_getD, List.getElem?_eq_none (by rw [List.length_take]; omega)]; simp⟩
theorem getD_drop (bs : List Nat) (k j : Nat) : (bs.drop k).getD j 0 = bs.getD (k + j) 0 := by
  rw [List.getD_eq_getElem?_getD, List.getD_eq_getElem?_getD, List.getElem?_drop]
theorem Bytes.rest {w : World} {B : Nat} {A : Option Addr} {n : Nat} {bs : List Nat} (h : Bytes w B A n bs) {k c : Nat} (hk : k ≤ n) (hc : n ≤ c) : Bytes w B (if c = k then A else A.map (·.add (k * 1))) (n - k) (bs.drop k) :=
  ⟨by rw [List.length_drop, h.len], (h.lies.behind hk hc).same fun j hj => by unfold byteAt; rw [getD_drop], fun j => by rw [getD_drop]; exact h.small _⟩
end Go.Proofs.YtgenkmihbnkakaaDoor
