/- slices.Clone and slices.Insert of things: at the end, with room, without. Conditions: the row's cells; fewer than 4000 things. The landed ideal's insert, with, cleaned. Conditions: sorted lists of at most 1000 things that may be. The landed ideal's cleaned. Conditions: at most 1400 things that may be. -/
import Derived.Test.YtfidamiomnohcaaIdMath2
import Derived.Test.YtfidamiomnohcaaInsRow
import Derived.Test.YtfidamiomnohcaaRunK
import Derived.Test.YtfidamiomnohcaaIdSearch
import Derived.Test.YtfidamiomnohcaaMoves
set_option linter.unusedVariables false
set_option linter.unusedSimpArgs false
set_option maxRecDepth 20000
namespace Go.Proofs.Ytfidamiomnohcaa
section
open Go.RowKit

theorem Kind.slice_from_at {α : Type} (K : Kind α) (g n c k : Nat) (hk : k ≤ n) (hc : n ≤ c) (W : World) : (Instr.slice K.L (.slice (some ⟨g, 0, none⟩) n c) (some (.int .i64 (k : Int))) none none).run Try.prog W = .ok (.slice (if c = k then some ⟨g, 0, none⟩ else some ⟨g, k * K.k, none⟩) (n - k) (c - k)) W := by
  have := K.slice_from (some ⟨g, 0, none⟩) n c k hk W
  simpa only [Option.map_some, Kind.add_zero_k] using this
theorem Kind.slice_mid_at {α : Type} (K : Kind α) (g n c lo hi : Nat) (h1 : lo ≤ hi) (h2 : hi ≤ c) (hlt : lo < c) (W : World) : (Instr.slice K.L (.slice (some ⟨g, 0, none⟩) n c) (some (.int .i64 (lo : Int))) (some (.int .i64 (hi : Int))) none).run Try.prog W = .ok (.slice (some ⟨g, lo * K.k, none⟩) (hi - lo) (c - lo)) W := by
  have := K.slice_mid (some ⟨g, 0, none⟩) n c lo hi h1 h2 W
  rw [if_neg (by omega)] at this
  simpa only [Option.map_some, Kind.add_zero_k] using this
/-- A block of one thing. -/
structure RowTh (w : World) (p : Nat) (x : Th) : Prop where
  row : w.heap[p]? = some (.cells (thCells x).toArray 85 (0, 0))
theorem RowTh.lt {w : World} {p : Nat} {x : Th} (h : RowTh w p x) : p < w.heap.size := (Array.getElem?_eq_some_iff.1 h.row).1
theorem RowTh.free {w : World} {p : Nat} {x : Th} (h : RowTh w p x) (k : Nat) : w.frozen? ⟨p, k, none⟩ = false := by simp [World.frozen?, h.row]
theorem RowTh.new (W : World) (x : Th) : RowTh (W.alloc (.cells (thCells x).toArray 85)) W.heap.size x := ⟨heap_alloc_new W _⟩
theorem row_empty_k {α : Type} {K : Kind α} {base : Nat} (W : World) (hb : base ≤ W.heap.size) : K.Row (W.alloc (.cells #[] K.T)) base (some ⟨W.heap.size, 0, none⟩) 0 0 [] :=
  ⟨World.ownsRow_lit W #[] 0 hb (by unfold maxLen; omega) (by simp), fun v hv => by cases hv⟩
set_option maxHeartbeats 1000000 in
theorem cloneTh_some (ad : Addr) (n c : Nat) (l : List Th) (w : World) (hn : n ≤ 8000) (hA : thK.Lie w w.heap.size (some ad) n l) :
    Calls Try.prog 44 #[.slice (some ad) n c] w (fun e w' => ∃ A' c', e = .returned (.slice A' n c') ∧ Hid (thK.Row w' w.heap.size A' n c' l) ∧ Hid (Below w.heap.size w w')) := by
  have hS := since_alloc (Below.refl w.heap.size w) (.cells #[] 85)
  obtain ⟨A2, c2, W2, hr, ho, hb, _⟩ := Kind.append_g (K := thK) (c' := c) hS (row_empty_k (K := thK) w (Nat.le_refl _)) (hA.since hS) (by omega)
  rw [Nat.zero_add] at hr ho
  rw [List.nil_append] at ho
  have R := Lib.hid hr
  have HO := Lib.hid ho
  have HB := Lib.hid hb
  clear hr ho hb hA hS
  have heq : ∀ W : World, (binOp .eql 72 (.slice (some ad) n c) (.slice none 0 0)).run Try.prog W = .ok (.bool false) W := fun W => Lib.run_eql_slice_nil W _ _ _ _ _ _ _ Try.underlying72
  go_enter Try.func44, Try.ntmps44
  go_wp2_with (at_builtin; refine wpList_append_run rfl (.tmp 5) (.tmp 6) 72 rfl rfl rfl R.out ?_)
  go_ret
  exact ⟨_, _, rfl, HO, HB⟩
theorem rowTh_lie {w : World} {p : Nat} {x : Th} (h : RowTh w p x) (hx : ThOk x) : thK.Lie w w.heap.size (some ⟨p, 0, none⟩) 1 [x] :=
  Kind.lie_of rfl (fun u hu => by rw [List.mem_singleton.1 hu]; exact hx) h.lt fun j u hu => by
    rw [cell_of_row _ _ _ _ _ _ h.row]
    have : thK.cells [x] = thCells x := rfl
    rw [this] at hu
    simpa using hu
theorem row_some {α : Type} {K : Kind α} {w : World} {base n c : Nat} {A : Option Addr} {vs : List α} (h : K.Row w base A n c vs) (hn : 0 < n) : ∃ r, A = some ⟨r, 0, none⟩ := by
  rcases h.row.2 with ⟨_, h0⟩ | ⟨r, cap, cur, hv, _⟩
  · omega
  · injection hv with e
    exact ⟨r, e⟩
theorem ins_grown {α : Type} (l : List α) (x d : α) (i n q : Nat) (hl : l.length = n) (hi : i < n) (hq : i + q = n + 1) :
    ((l.take i ++ List.replicate q d).take i ++ [x] ++ (l.take i ++ List.replicate q d).drop (i + 1)).take (i + 1) ++ l.drop i ++ ((l.take i ++ List.replicate q d).take i ++ [x] ++ (l.take i ++ List.replicate q d).drop (i + 1)).drop (i + 1 + (n - i)) = l.take i ++ x :: l.drop i := by
  have h1 : (l.take i).length = i := by rw [List.length_take, hl]; omega
  have h2 : (l.take i ++ List.replicate q d).take i = l.take i := by
    conv => lhs; rw [show i = (l.take i).length from h1.symm]
    rw [h1, List.take_append_of_le_length (by rw [h1]; omega), List.take_take, Nat.min_self]
  have h3 : (l.take i ++ [x]).length = i + 1 := by rw [List.length_append, h1]; rfl
  rw [h2]
  have h4 : (l.take i ++ [x] ++ (l.take i ++ List.replicate q d).drop (i + 1)).take (i + 1) = l.take i ++ [x] := by
    rw [List.take_append_of_le_length (by rw [h3]; omega), List.take_of_length_le (by rw [h3]; omega)]
  have h5 : (l.take i ++ [x] ++ (l.take i ++ List.replicate q d).drop (i + 1)).drop (i + 1 + (n - i)) = [] := by
    refine List.drop_eq_nil_of_le ?_
    rw [List.length_append, h3, List.length_drop, List.length_append, h1, List.length_replicate]; omega
  rw [h4, h5, List.append_nil, List.append_assoc]; rfl
/-- What it leaves. -/
def InsOut (w : World) (base g n : Nat) (l : List Th) (e : Ending) (w' : World) : Prop :=
  ∃ r c, e = .returned (.slice (some ⟨r, 0, none⟩) n c) ∧ thK.Row w' base (some ⟨r, 0, none⟩) n c l ∧ Turn (fun b => b = g) w w' ∧ (r = g ∨ w.heap.size ≤ r)
section
variable {w : World} {base g n c i p : Nat} {l : List Th} {x : Th}
set_option maxHeartbeats 4000000 in
theorem insTh_end (h : thK.Row w base (some ⟨g, 0, none⟩) n c l) (hx : ThOk x) (hp : RowTh w p x) (hb : base ≤ w.heap.size) (hn : n < 4000) :
    Calls Try.prog 95 #[.slice (some ⟨g, 0, none⟩) n c, .int .i64 (n : Int), .slice (some ⟨p, 0, none⟩) 1 1] w (InsOut w base g (n + 1) (l ++ [x])) := by
  have hL := rowTh_lie hp hx
  obtain ⟨A2, c2, W2, hr, hR, hG⟩ := Kind.append_b (c' := 1) hb h hL (by omega)
  have hat := Kind.append_at (c' := 1) h hL (by omega) hr
  obtain ⟨r, rfl⟩ := row_some hR (by omega)
  have HR := Lib.hid hR
  have HA : Hid (r = g ∨ w.heap.size ≤ r) := by
    rcases hat r rfl with e | e
    · exact Or.inl (Option.some.inj e).symm
    · exact Or.inr e
  have HT : Hid (Turn (fun b => b = g) w W2) := Turn.of_grown hG fun b e => (Option.some.inj e).symm
  have R := Lib.hid hr
  have hcap : n ≤ c := h.cap
  have i0 : (0 : Int) ≤ (n : Int) := by omega
  obtain ⟨v0, HV0⟩ : ∃ v, Hid (Value.slice (if c = n then some ⟨g, 0, none⟩ else some ⟨g, n * thK.k, none⟩) (n - n) (c - n) = v) := ⟨_, rfl⟩
  have hs0 : ∀ W : World, (Instr.slice 72 (.slice (some ⟨g, 0, none⟩) n c) (some (.int .i64 (n : Int))) none none).run Try.prog W = .ok v0 W := fun W => HV0.out ▸ thK.slice_from_at g n c n (Nat.le_refl _) hcap W
  clear h hL hp hr hR hG hat
  go_enter Try.func95, Try.ntmps95
  go_wp2_with (at_builtin; refine wpList_append_run rfl (.tmp 23) (.tmp 24) 72 rfl rfl rfl R.out ?_)
  go_ret
  exact ⟨_, _, rfl, HR.out, HT.out, HA.out⟩
theorem copy_own_room (h : thK.Row w base (some ⟨g, 0, none⟩) n c l) (hp : RowTh w p x) : p ≠ g → w.shape? p = some (85, 2) ∧ (∃ k, w.shape? g = some (85, k) ∧ (0 < c → k ≠ 0)) := fun _ => by
  obtain ⟨cur, h1, h2, h3, h4, h5, h6⟩ := h.open_
  refine ⟨by simp [World.shape?, hp.row]; rfl, cur.size, by simp [World.shape?, h2]; rfl, fun hc => ?_⟩
  rw [h5]
  exact Nat.mul_ne_zero (by omega) (by decide)
theorem sizeTh (W : World) : (Go.sizeOf 85).run Try.prog W = .ok 2 W := by
  obtain ⟨i0, hi, hz0, hz1, hz2⟩ := info_parts infoTh
  simp [sizeOf, typeInfo, hi, hz1]
set_option maxHeartbeats 8000000 in
set_option maxRecDepth 20000 in
theorem insTh_room (h : thK.Row w base (some ⟨g, 0, none⟩) n c l) (hx : ThOk x) (hp : RowTh w p x) (hpg : p ≠ g) (hi : i < n) (hc : n < c) (hn : n < 4000) :
    Calls Try.prog 95 #[.slice (some ⟨g, 0, none⟩) n c, .int .i64 (i : Int), .slice (some ⟨p, 0, none⟩) 1 1] w (InsOut w base g (n + 1) (l.take i ++ x :: l.drop i)) := by
  have hD : Below w.heap.size w w.drew := (Below.refl _ _).drew
  have hL := (rowTh_lie hp hx).since hD
  obtain ⟨W1, W2, r1, r2, hR, hG⟩ := (h.since hD).insert (c' := 1) hL hpg hi hc 3
  obtain ⟨hs1, kg, hs2, hs3⟩ := copy_own_room h hp hpg
  obtain ⟨n1, HN1⟩ : ∃ q, Hid (n + 1 = q) := ⟨_, rfl⟩
  obtain ⟨j, HJ⟩ : ∃ q, Hid (i + 1 = q) := ⟨_, rfl⟩
  rw [HN1.out, HJ.out] at r1
  rw [HN1.out] at r2 hR ⊢
  have HR := Lib.hid hR
  have HT : Hid (Turn (fun b => b = g) w W2) := (Turn.of_below (fp := fun b => b = g) hD).trans (Turn.of_grown (fp := fun b => b = g) hG fun b e => (Option.some.inj e).symm) fun b hb => Or.inl hb
  have hov : ∀ lb cb, (callFunc 99 #[.slice (some ⟨p, 0, none⟩) 1 1, .slice (some ⟨g, j * thK.k, none⟩) lb cb]).run Try.prog w = .ok (.value (.bool false)) w := fun lb cb => by
    rw [run_callFunc_extern Try.func99 (by kernel_rfl) (by kernel_rfl) (by kernel_rfl) (e := Extern.SlicesOverlaps.overlaps #[72, 72] #[4]) (by kernel_rfl),
      Lib.run_overlaps_apart w 72 4 85 Try.underlying72 2 sizeTh ⟨p, 0, none⟩ ⟨g, j * thK.k, none⟩ 1 1 lb cb hpg 85 85 2 kg hs1 hs2 (hs3 (by omega)) (hp.free 0) (hp.free 2)]
    rfl
  have hcap : n ≤ c := h.cap
  obtain ⟨v0, HV0⟩ : ∃ v, Hid (Value.slice (if c = i then some ⟨g, 0, none⟩ else some ⟨g, i * thK.k, none⟩) (n - i) (c - i) = v) := ⟨_, rfl⟩
  have hl0 : ∀ W : World, (Instr.slice 72 (.slice (some ⟨g, 0, none⟩) n c) (some (.int .i64 (i : Int))) none none).run Try.prog W = .ok v0 W := fun W => HV0.out ▸ thK.slice_from_at g n c i (Nat.le_of_lt hi) hcap W
  have hl1 : ∀ W : World, (Instr.slice 72 (.slice (some ⟨g, 0, none⟩) n c) none (some (.int .i64 (n1 : Int))) none).run Try.prog W = .ok (.slice (some ⟨g, 0, none⟩) n1 c) W := fun W => by
    have hu : Try.prog.underlying thK.L = some (.slice (Try.prog.elem thK.L)) := by rw [thK.elem]; exact thK.under
    have h := run_slice_h (P := Try.prog) (w := W) thK.L (some ⟨g, 0, none⟩) n c hu .i64 (n1 : Int) (by omega) (by rw [← HN1.out]; omega)
    refine h.trans ?_
    rw [thK.elem]
    simp [thK, sizeTh, sliced, add_none]
  have hj1 : j ≤ n1 := by rw [← HJ.out, ← HN1.out]; omega
  have hn1 : n1 ≤ c := by rw [← HN1.out]; omega
  have hjc : j < c := by rw [← HJ.out]; omega
  have hi1 : i ≤ n1 := by rw [← HN1.out]; omega
  have hl2 : ∀ W : World, (Instr.slice 72 (.slice (some ⟨g, 0, none⟩) n1 c) (some (.int .i64 (j : Int))) none none).run Try.prog W = .ok (.slice (some ⟨g, j * thK.k, none⟩) (n1 - j) (c - j)) W := fun W => by
    have := thK.slice_from_at g n1 c j hj1 hn1 W
    rwa [if_neg (by omega)] at this
  have hl3 : ∀ W : World, (Instr.slice 72 (.slice (some ⟨g, 0, none⟩) n1 c) (some (.int .i64 (i : Int))) none none).run Try.prog W = .ok (.slice (some ⟨g, i * thK.k, none⟩) (n1 - i) (c - i)) W := fun W => by
    have := thK.slice_from_at g n1 c i hi1 hn1 W
    rwa [if_neg (by omega)] at this
  have z1 : (n : Int) + 1 = (n1 : Int) := by rw [← HN1.out]; omega
  have z2 : (i : Int) + 1 = (j : Int) := by rw [← HJ.out]; omega
  have hw1 : IntKind.i64.wrap (j : Int) = (j : Int) := by rw [IntKind.wrap_i64, ← HJ.out]; omega
  have z3 : ¬ ((n1 : Int) > (c : Int)) := by omega
  have z4 : ¬ ((i : Int) = (n : Int)) := by omega
  have hij := hov (n1 - j) (c - j)
  obtain ⟨v2, HV2⟩ : ∃ v, Hid (Value.slice (some ⟨g, j * thK.k, none⟩) (n1 - j) (c - j) = v) := ⟨_, rfl⟩
  obtain ⟨v3, HV3⟩ : ∃ v, Hid (Value.slice (some ⟨g, i * thK.k, none⟩) (n1 - i) (c - i) = v) := ⟨_, rfl⟩
  rw [HV2.out] at hl2 r1 hij
  rw [HV3.out] at hl3 r1 r2
  have R1 := Lib.hid r1
  have R2 : Hid ((Builtin.copy_ #[72, 72] 3 #[v3, .slice (some ⟨p, 0, none⟩) 1 1]).run Try.prog W1 = .ok (.int .i64 (1 : Nat)) W2) := r2
  have i0 : (0 : Int) ≤ (i : Int) := by omega
  have HOV := Lib.hid hij
  clear h hL hp hR hG hD r1 r2 hov hs1 hs2 hs3 hij
  go_enter Try.func95, Try.ntmps95
  go_wp2_with (simp only [HOV.out])
  go_region_law (refine step_copy_k rfl _ _ 72 72 rfl (by simp [Act.eval, Act.put]) (by simp [Act.eval, Act.put]) R1.out ?_)
  go_wp2_with (simp only [R2.out])
  go_ret
  exact ⟨_, _, rfl, HR.out, HT.out, Or.inl rfl⟩
set_option maxHeartbeats 8000000 in
set_option maxRecDepth 20000 in
theorem insTh_grow (h : thK.Row w base (some ⟨g, 0, none⟩) n c l) (hx : ThOk x) (hp : RowTh w p x) (hb : base ≤ w.heap.size) (hg : g < w.heap.size) (hi : i < n) (hc : c < n + 1) (hn : n < 4000) :
    Calls Try.prog 95 #[.slice (some ⟨g, 0, none⟩) n c, .int .i64 (i : Int), .slice (some ⟨p, 0, none⟩) 1 1] w (InsOut w base g (n + 1) (l.take i ++ x :: l.drop i)) := by
  have hcap : n ≤ c := h.cap
  have hL := rowTh_lie hp hx
  obtain ⟨q, HQ⟩ : ∃ q, Hid (n + 1 - i = q) := ⟨_, rfl⟩
  have hq := HQ.out
  have hiq : i + q = n + 1 := by omega
  obtain ⟨c2, W1, r1, hR1, hB1⟩ := h.grow thK_zero (i := i) (m := q) (tn := 3) (ty := 72) (kn := .i64) hb (Nat.le_of_lt hi) (by omega) (by omega) (by omega) Try.underlying3
  have hcap1 := hR1.cap
  obtain ⟨n1, HN1⟩ : ∃ q, Hid (n + 1 = q) := ⟨_, rfl⟩
  obtain ⟨j, HJ⟩ : ∃ q, Hid (i + 1 = q) := ⟨_, rfl⟩
  rw [hiq, HN1.out] at r1 hR1 hcap1
  obtain ⟨b, HBN⟩ : ∃ b, Hid (w.heap.size = b) := ⟨_, rfl⟩
  rw [HBN.out] at r1 hR1
  have hn1 := HN1.out
  have hj := HJ.out
  obtain ⟨W2, r2, hR2, hG2⟩ := hR1.copy (o := i) (m := 1) (dLen := n1 - i) (dCap := c2 - i) (sCap := 1) (hL.since hB1) (by omega) (by omega) 3
  have hb2 : Below w.heap.size w W2 := hB1.grown hG2 hB1.size fun k e => by rw [HBN.out, ← Option.some.inj e]; exact Nat.le_refl _
  have hD : Below W2.heap.size W2 W2.drew := (Below.refl _ _).drew
  have hb3 := below_chain hb2 hD
  have hS : thK.Lie W2.drew W2.drew.heap.size (some ⟨g, i * thK.k, none⟩) (n - i) (l.drop i) := by
    have := (h.since hb3).lie.rest (k := i) (c := c) (Nat.le_of_lt hi) hcap
    rw [if_neg (by omega)] at this
    simpa only [Option.map_some, Kind.add_zero_k] using this
  obtain ⟨W3, r3, hR3, hG3⟩ := (hR2.since hD).copy (o := j) (m := n - i) (dLen := n1 - j) (dCap := c2 - j) (sCap := c - i) hS (by omega) (by omega) 3
  have hb4 : Below w.heap.size w W3 := hb3.grown hG3 hb3.size fun k e => by rw [HBN.out, ← Option.some.inj e]; exact Nat.le_refl _
  have HR : Hid (thK.Row W3 base (some ⟨b, 0, none⟩) n1 c2 (l.take i ++ x :: l.drop i)) := by
    have := hR3
    rw [← hj, ins_grown l x thK.dflt i n q h.len hi hiq] at this
    exact this
  have HT : Hid (Turn (fun b => b = g) w W3) := Turn.of_below hb4
  have HBZ : Hid (b = g ∨ w.heap.size ≤ b) := Or.inr (Nat.le_of_eq HBN.out)
  obtain ⟨v0, HV0⟩ : ∃ v, Hid (Value.slice (if c = i then some ⟨g, 0, none⟩ else some ⟨g, i * thK.k, none⟩) (n - i) (c - i) = v) := ⟨_, rfl⟩
  have hl0 : ∀ W : World, (Instr.slice 72 (.slice (some ⟨g, 0, none⟩) n c) (some (.int .i64 (i : Int))) none none).run Try.prog W = .ok v0 W := fun W => HV0.out ▸ thK.slice_from_at g n c i (Nat.le_of_lt hi) hcap W
  have hv0 : v0 = .slice (some ⟨g, i * thK.k, none⟩) (n - i) (c - i) := by rw [← HV0.out, if_neg (by omega)]
  have hl1 : ∀ W : World, (Instr.slice 72 (.slice (some ⟨g, 0, none⟩) n c) none (some (.int .i64 (i : Int))) none).run Try.prog W = .ok (.slice (some ⟨g, 0, none⟩) i c) W := fun W => thK.slice_to (some ⟨g, 0, none⟩) n c i (Nat.le_of_lt hi) hcap W
  have hl2 : ∀ W : World, (Instr.slice 72 (.slice (some ⟨b, 0, none⟩) n1 c2) (some (.int .i64 (j : Int))) none none).run Try.prog W = .ok (.slice (some ⟨b, j * thK.k, none⟩) (n1 - j) (c2 - j)) W := fun W => by
    have := thK.slice_from_at b n1 c2 j (by omega) hcap1 W
    rwa [if_neg (by omega)] at this
  have hl3 : ∀ W : World, (Instr.slice 72 (.slice (some ⟨b, 0, none⟩) n1 c2) (some (.int .i64 (i : Int))) none none).run Try.prog W = .ok (.slice (some ⟨b, i * thK.k, none⟩) (n1 - i) (c2 - i)) W := fun W => by
    have := thK.slice_from_at b n1 c2 i (by omega) hcap1 W
    rwa [if_neg (by omega)] at this
  have z1 : (n : Int) + 1 = (n1 : Int) := by omega
  have z2 : (i : Int) + 1 = (j : Int) := by omega
  have z3 : (n1 : Int) > (c : Int) := by omega
  have z4 : ¬ ((i : Int) = (n : Int)) := by omega
  have z5 : (n1 : Int) - (i : Int) = (q : Int) := by omega
  have hw1 : IntKind.i64.wrap (j : Int) = (j : Int) := by rw [IntKind.wrap_i64]; omega
  rw [← hv0] at r3
  obtain ⟨v2, HV2⟩ : ∃ v, Hid (Value.slice (some ⟨b, j * thK.k, none⟩) (n1 - j) (c2 - j) = v) := ⟨_, rfl⟩
  obtain ⟨v3, HV3⟩ : ∃ v, Hid (Value.slice (some ⟨b, i * thK.k, none⟩) (n1 - i) (c2 - i) = v) := ⟨_, rfl⟩
  rw [HV2.out] at hl2 r3
  rw [HV3.out] at hl3 r2
  have R1 := Lib.hid r1
  have R2 : Hid ((Builtin.copy_ #[72, 72] 3 #[v3, .slice (some ⟨p, 0, none⟩) 1 1]).run Try.prog W1 = .ok (.int .i64 (1 : Nat)) W2) := r2
  have R3 := Lib.hid r3
  have i0 : (0 : Int) ≤ (i : Int) := by omega
  rw [HN1.out]
  clear h hL hp r1 r2 r3 hR1 hB1 hR2 hG2 hb2 hD hb3 hS hR3 hG3 hb4 hq hn1 hj hv0 hiq
  go_enter Try.func95, Try.ntmps95
  go_wp2_with (at_builtin; refine Lib.wpList_append_run _ rfl (.tmp 34) (.tmp 39) 72 3 rfl _ _ rfl rfl _ _ R1.out ?_)
  go_wp2_with (simp only [R2.out])
  go_region_law (refine step_copy_k rfl _ _ 72 72 rfl (by simp [Act.eval, Act.put]) (by simp [Act.eval, Act.put]) R3.out ?_)
  go_wp2_with fail
  go_ret
  exact ⟨_, _, rfl, HR.out, HT.out, HBZ.out⟩
/-- slices.Insert of one entry. -/
theorem insTh_any (h : thK.Row w base (some ⟨g, 0, none⟩) n c l) (hx : ThOk x) (hp : RowTh w p x) (hpg : p ≠ g) (hb : base ≤ w.heap.size) (hg : g < w.heap.size) (hi : i ≤ n) (hn : n < 4000) :
    Calls Try.prog 95 #[.slice (some ⟨g, 0, none⟩) n c, .int .i64 (i : Int), .slice (some ⟨p, 0, none⟩) 1 1] w (InsOut w base g (n + 1) (l.take i ++ x :: l.drop i)) := by
  by_cases h1 : i = n
  · subst h1
    have e : l.take i ++ x :: l.drop i = l ++ [x] := by rw [List.take_of_length_le (Nat.le_of_eq h.len), List.drop_of_length_le (Nat.le_of_eq h.len)]
    rw [e]
    exact insTh_end h hx hp hb hn
  · by_cases h2 : n < c
    · exact insTh_room h hx hp hpg (by omega) h2 hn
    · exact insTh_grow h hx hp hb hg (by omega) (by omega) hn
end
/-- Clone of what may be nil. -/
theorem cloneTh_nil (w : World) : Calls Try.prog 44 #[.slice none 0 0] w (GivesT w []) := by
  have S0 := Lib.hid (Below.refl w.heap.size w)
  have heq : ∀ W : World, (binOp .eql 72 (.slice none 0 0) (.slice none 0 0)).run Try.prog W = .ok (.bool true) W := fun W => Lib.run_eql_slice_nil W _ _ _ _ _ _ _ Try.underlying72
  go_enter Try.func44, Try.ntmps44
  go_wp2_with fail
  go_ret
  exact ⟨_, _, _, rfl, Kind.Row.none_, S0⟩
theorem cloneTh_any (A : Option Addr) (n c : Nat) (l : List Th) (w : World) (hn : n ≤ 8000) (hA : thK.Lie w w.heap.size A n l) (hz : A = none → c = 0) :
    Calls Try.prog 44 #[.slice A n c] w (GivesT w l) := by
  have hl := hA.len
  cases A with
  | some ad =>
    refine (cloneTh_some ad n c l w hn hA).mono ?_
    rintro e w' ⟨A', c', rfl, h1, h2⟩
    subst hl
    exact ⟨A', _, c', rfl, h1, h2⟩
  | none =>
    have hn0 : n = 0 := by
      rcases Nat.eq_zero_or_pos n with h | h
      · exact h
      · obtain ⟨ad, e, _⟩ := hA.each 0 h
        cases e
    subst hn0
    obtain rfl := List.eq_nil_of_length_eq_zero hl
    obtain rfl := hz rfl
    exact cloneTh_nil w
end

section
open Go.RowKit

/-- What a call that puts one more into a row leaves. -/
def PutOut (w : World) (base : Nat) (A : Option Addr) (l : List Th) (e : Ending) (w' : World) : Prop :=
  ∃ A' m c, e = .returned (.slice A' m c) ∧ Hid (thK.Row w' base A' m c l) ∧ Hid (Turn (fun b => b ∈ blk A) w w') ∧ Hid (∀ b ∈ blk A', b ∈ blk A ∨ w.heap.size ≤ b)
section
variable {w : World} {base n c : Nat} {A : Option Addr} {l : List Th} {x : Th}
/-- slices.Insert of one thing, nil included. -/
theorem insTh_nil (p : Nat) (w : World) (hx : ThOk x) (hp : RowTh w p x) (hb : base ≤ w.heap.size) :
    Calls Try.prog 95 #[.slice none 0 0, .int .i64 0, .slice (some ⟨p, 0, none⟩) 1 1] w (PutOut w base none [x]) := by
  have hL := rowTh_lie hp hx
  have h : thK.Row w base none 0 0 [] := Kind.Row.none_
  obtain ⟨A2, c2, W2, hr, hR, hG⟩ := Kind.append_b (c' := 1) hb h hL (by omega)
  have hat := Kind.append_at (c' := 1) h hL (by omega) hr
  rw [Nat.zero_add] at hr hR hat
  rw [List.nil_append] at hR
  have HR := Lib.hid hR
  have HA : Hid (∀ b ∈ blk A2, b ∈ blk none ∨ w.heap.size ≤ b) := fun b hb => by
    obtain ⟨r, rfl⟩ := row_some hR (by omega)
    have e : b = r := by simpa [blk] using hb
    subst e
    rcases hat b rfl with e | e
    · cases e
    · exact Or.inr e
  have HT : Hid (Turn (fun b => b ∈ blk none) w W2) := Turn.of_grown hG fun b e => by cases e
  have R := Lib.hid hr
  clear hL hp hr hR hG hat h
  go_enter Try.func95, Try.ntmps95
  go_wp2_with (at_builtin; refine wpList_append_run rfl (.tmp 23) (.tmp 24) 72 rfl rfl rfl R.out ?_)
  go_ret
  exact ⟨_, _, _, rfl, HR, HT, HA⟩
theorem insTh_all (h : thK.Row w base A n c l) (hx : ThOk x) {p : Nat} (hp : RowTh w p x) (hpg : p ∉ blk A) (hb : base ≤ w.heap.size) {i : Nat} (hi : i ≤ n) (hn : n < 4000) :
    Calls Try.prog 95 #[.slice A n c, .int .i64 (i : Int), .slice (some ⟨p, 0, none⟩) 1 1] w (PutOut w base A (l.take i ++ x :: l.drop i)) := by
  have hl := h.len
  rcases h.row.2 with ⟨hv, hn0⟩ | ⟨g, cap, cur, hv, hbg, hg, rest⟩
  · injection hv with e1 e2 e3
    subst e1 e2 e3
    obtain rfl := List.eq_nil_of_length_eq_zero hl
    obtain rfl : i = 0 := by omega
    exact insTh_nil p w hx hp hb
  · injection hv with e1 e2 e3
    subst e1
    have hgl : g < w.heap.size := (Array.getElem?_eq_some_iff.1 hg).1
    have hne : p ≠ g := fun e => hpg (by rw [e]; simp [blk])
    refine (insTh_any h hx hp hne hb hgl hi hn).mono ?_
    rintro e w' ⟨r, c', rfl, hR, hT, hA⟩
    refine ⟨some ⟨r, 0, none⟩, _, c', rfl, hR, hT.mono fun b hb => Or.inl (by rw [hb]; simp [blk]), fun b hb => ?_⟩
    have e : b = r := by simpa [blk] using hb
    subst e
    exact hA.imp (fun e => by rw [e]; simp [blk]) id
set_option maxHeartbeats 4000000 in
theorem insert_any (A : Option Addr) (n c : Nat) (l : List Th) (x : Th) (w : World) (base : Nat) (hs : Srt l) (hx : ThOk x) (hn : n ≤ 3000) (hb : base ≤ w.heap.size) (h : thK.Row w base A n c l) :
    Calls Try.prog 85 #[.slice A n c, thV x] w (PutOut w base A (insT l x)) := by
  obtain ⟨k, HK⟩ : ∃ k, Hid (aheadT l x = k) := ⟨_, rfl⟩
  obtain ⟨q, HQ⟩ : ∃ q, Hid (isT l x = q) := ⟨_, rfl⟩
  have hl := h.len
  have hkn : k ≤ n := by rw [← HK.out, ← hl]; exact ahead_le l x
  obtain ⟨W0, HW0⟩ : ∃ W, Hid (w.alloc (.cells (thCells x).toArray 85) = W) := ⟨_, rfl⟩
  have HB0 : Hid (Below w.heap.size w W0) := by show Below _ _ _; rw [← HW0.out]; exact (Below.refl _ _).alloc (Nat.le_refl _) _
  obtain ⟨g, HG⟩ : ∃ g, Hid (w.heap.size = g) := ⟨_, rfl⟩
  have HX0 : Hid (ThAt W0 ⟨g, 0, none⟩ x) := by show ThAt _ _ _; rw [← HW0.out, ← HG.out]; exact th_new w x _ rfl _
  have HGL : Hid (g < W0.heap.size) := by show _ < _; rw [← HW0.out, ← HG.out]; simp
  have C1 := Lib.hid (tsearch_any A n c l x W0 hs (by omega) (h.since HB0.out).lie)
  unfold whereTh at C1
  rw [HK.out, HQ.out] at C1
  have HR := Lib.hid h
  have HL := Lib.hid hl
  have HBS := Lib.hid hb
  have HXO := Lib.hid hx
  have HS := Lib.hid hs
  obtain ⟨xk, xd⟩ := x
  obtain ⟨sx, HSX⟩ : ∃ s, Hid (strB xd = s) := ⟨_, rfl⟩
  have HC0 : Hid (Calls Try.prog 68 #[.slice A n c, .agg #[.int .i64 xk, .string sx], .func (.func 69) #[] #[]] W0 fun e w' => e = .returned (.tuple #[.int .i64 (k : Nat), .bool q]) ∧ Gro W0 w') := by rw [← HSX.out]; exact C1.out
  have HW1 : Hid (w.alloc (.cells #[.int .i64 xk, .string sx] 85) = W0) := by show _ = _; rw [← HW0.out, ← HSX.out]; rfl
  have x1 := HX0.out.c0
  have x2 := HX0.out.c1
  simp only at x1 x2
  rw [HSX.out] at x2
  have X1 := Lib.hid x1
  have X2 : Hid (W0.cell? ⟨g, 1, none⟩ = some (.string sx)) := x2
  clear h hl hs hb hx C1 HX0 HW0 x1 x2
  show Calls _ _ #[_, .agg #[.int .i64 xk, .string (strB xd)]] _ _
  rw [HSX.out]
  have y1 := X1.out
  have y2 := X2.out
  have rx1 := y1
  rcases q with _ | _
  · have HE : Hid (insT l ⟨xk, xd⟩ = l.take k ++ ⟨xk, xd⟩ :: l.drop k) := by show _ = _; unfold insT; rw [if_neg (by rw [HQ.out]; simp), HK.out]
    rw [HE.out]
    clear y1 y2 rx1
    go_enter Try.func85, Try.ntmps85
    go_wp2_with fail
    rw [HW1.out, HG.out]
    have x1 := X1.out
    have x2 := X2.out
    go_wp2_with fail
    refine HC0.out.mono ?_
    rintro e w1 ⟨rfl, hg⟩
    have HG1 := Lib.hid hg
    have z1 := gro_cell (p := ⟨g, 0, none⟩) hg HGL.out X1.out
    have z2 := gro_cell (p := ⟨g, 1, none⟩) hg HGL.out X2.out
    have HT1 : Hid (Below w.heap.size w w1) := below_chain HB0.out hg.later
    obtain ⟨W2, HW2⟩ : ∃ W, Hid (w1.alloc (.cells #[.int .i64 xk, .string sx] 85) = W) := ⟨_, rfl⟩
    obtain ⟨p, HP⟩ : ∃ p, Hid (w1.heap.size = p) := ⟨_, rfl⟩
    have HB2 : Hid (Below w.heap.size w W2) := by show Below _ _ _; rw [← HW2.out]; exact since_alloc HT1.out _
    have HRT : Hid (RowTh W2 p ⟨xk, xd⟩) := by
      show RowTh _ _ _
      have := RowTh.new w1 ⟨xk, xd⟩
      rw [← HW2.out, ← HP.out, ← HSX.out]; exact this
    have HPB : Hid (p ∉ blk A) := fun hp => by
      have h1 := Row.blk_lt HR.out p hp
      have h2 := HT1.out.size
      have h3 := HP.out
      omega
    have C2 := Lib.hid (insTh_all (i := k) (HR.out.since HB2.out) HXO.out HRT.out HPB.out (Nat.le_trans HBS.out HB2.out.size) hkn (by omega))
    clear x1 x2 hg
    go_wp2_with fail
    rw [HW2.out, HP.out]
    refine C2.out.mono ?_
    rintro e w3 ⟨A', m', c', rfl, hR3, hT3, hA3⟩
    have HT3 : Hid (Turn (fun b => b ∈ blk A) w w3) := (Turn.of_below HB2.out).trans hT3.out fun b hb => Or.inl hb
    have HA3 : Hid (∀ b ∈ blk A', b ∈ blk A ∨ w.heap.size ≤ b) := fun b hb => (hA3.out b hb).imp id fun h => Nat.le_trans HB2.out.size h
    clear hT3 hA3
    go_wp2_with fail
    go_ret
    exact ⟨_, _, _, rfl, hR3, HT3, HA3⟩
  · have HE : Hid (insT l ⟨xk, xd⟩ = l) := by show _ = _; unfold insT; rw [if_pos HQ.out]
    rw [HE.out]
    clear y1 y2 rx1
    go_enter Try.func85, Try.ntmps85
    go_wp2_with fail
    rw [HW1.out, HG.out]
    have x1 := X1.out
    have x2 := X2.out
    go_wp2_with fail
    refine HC0.out.mono ?_
    rintro e w1 ⟨rfl, hg⟩
    have HT1 : Hid (Below w.heap.size w w1) := below_chain HB0.out hg.later
    have HR1 : Hid (thK.Row w1 base A n c l) := HR.out.since HT1.out
    have HT3 : Hid (Turn (fun b => b ∈ blk A) w w1) := Turn.of_below HT1.out
    have HA3 : Hid (∀ b ∈ blk A, b ∈ blk A ∨ w.heap.size ≤ b) := fun b hb => Or.inl hb
    clear x1 x2 hg
    go_wp2_with fail
    go_ret
    exact ⟨_, _, _, rfl, HR1, HT3, HA3⟩
end
theorem lie_more {w w' : World} {A : Option Addr} {n : Nat} {l : List Th} (h : thK.Lie w w.heap.size A n l) (hb : Below w.heap.size w w') {k : Nat} (hk : k < n) : ∃ ad, A = some ad ∧ ad.block < w.heap.size ∧ ThAt w' (ad.add (k * 2)) (l.getD k Th.zero) := by
  obtain ⟨ad, e1, e2, e3⟩ := th_at h hk
  exact ⟨ad, e1, e2, e3.below hb (by rw [addr_block]; exact e2)⟩
theorem take_next {α : Type} (l : List α) (k : Nat) (d : α) (hk : k < l.length) : l.take (k + 1) = l.take k ++ [l.getD k d] := by
  rw [List.take_add_one, List.getD_eq_getElem?_getD, List.getElem?_eq_getElem hk]; rfl
set_option maxHeartbeats 8000000 in
theorem with_any (A A' : Option Addr) (n c m c' : Nat) (l more : List Th) (w : World) (hs : Srt l) (ho : ∀ t ∈ more, ThOk t) (hnm : n + 2 * m ≤ 2900) (hA : thK.Lie w w.heap.size A n l) (hz : A = none → c = 0) (hM : thK.Lie w w.heap.size A' m more) :
    Calls Try.prog 66 #[.slice A n c, .slice A' m c'] w (GivesT w (withT l more)) := by
  have C1 := Lib.hid (cloneTh_any A n c l w (by omega) hA hz)
  have HS := Lib.hid hs
  have HO := Lib.hid ho
  have HM := Lib.hid hM
  have HML : Hid (more.length = m) := hM.len
  have HLL : Hid (l.length = n) := hA.len
  clear hs ho hM hA hz
  go_enter Try.func66, Try.ntmps66
  go_wp2_with fail
  refine C1.out.mono ?_
  rintro e w0 ⟨A0, n0, c0, rfl, hR0, hB0⟩
  clear C1
  go_wp2_with fail
  go_loopw [5, 12] (fun t5 t12 wr => ∃ (i q d : Nat) (Z : Option Addr), t5 = .slice Z q d ∧ t12 = .int .i64 i ∧ i ≤ m ∧ Hid (thK.Row wr w.heap.size Z q d (withT l (more.take i))) ∧ Hid (Below w.heap.size w wr)) (fun t5 t12 _ => m - (intOf t12).toNat)
  case atStart => exact ⟨0, n0, c0, A0, rfl, rfl, Nat.zero_le _, hR0, hB0⟩
  case round =>
    clear hR0 hB0
    obtain ⟨i, q, d, Z, rfl, rfl, him, HR, HB⟩ := hrel
    by_cases hlt : i < m
    · obtain ⟨ad, rfl, hblk, hat⟩ := lie_more HM.out HB.out hlt
      obtain ⟨⟨xk, xd⟩, HX⟩ : ∃ x, Hid (more.getD i Th.zero = x) := ⟨_, rfl⟩
      rw [HX.out] at hat
      have HXO : Hid (ThOk ⟨xk, xd⟩) := by show ThOk _; rw [← HX.out]; exact HM.out.wf i
      have HNX : Hid (withT l (more.take (i + 1)) = stepT (withT l (more.take i)) ⟨xk, xd⟩) := by show _ = _; rw [take_next more i Th.zero (by rw [HML.out]; exact hlt), with_snoc, HX.out]
      have HQL : Hid (q ≤ 2900) := by
        have h1 := len_with (more.take i) l
        rw [HR.out.len, List.length_take, HML.out, HLL.out] at h1
        show _ ≤ _; omega
      have HSR : Hid (Srt (withT l (more.take i))) := srt_with HS.out
      obtain ⟨o, HOO⟩ : ∃ o, Hid (withT l (more.take i) = o) := ⟨_, rfl⟩
      rw [HOO.out] at HNX HR HSR
      obtain ⟨e0, e1⟩ := hat
      obtain ⟨sx, HSX⟩ : ∃ s, Hid (strB xd = s) := ⟨_, rfl⟩
      dsimp only at e0 e1
      rw [HSX.out] at e1
      have i0 : (0 : Int) ≤ (i : Int) := by omega
      have i1 : (i : Int) < (m : Int) := by omega
      obtain ⟨W1, HW1⟩ : ∃ W, Hid (wr.alloc (.cells #[.int .i64 xk, .string sx] 85) = W) := ⟨_, rfl⟩
      have HB1 : Hid (Below w.heap.size w W1) := by show Below _ _ _; rw [← HW1.out]; exact since_alloc HB.out _
      have HR1 : Hid (thK.Row W1 w.heap.size Z q d o) := by show thK.Row _ _ _ _ _ _; rw [← HW1.out]; exact HR.out.since ((Below.refl _ _).alloc (Nat.le_refl _) _)
      obtain ⟨g, HG⟩ : ∃ g, Hid (wr.heap.size = g) := ⟨_, rfl⟩
      have x1 : W1.cell? ⟨g, 0, none⟩ = some (.int .i64 xk) := by rw [← HW1.out, ← HG.out]; exact cell_first rfl
      have x2 : W1.cell? ⟨g, 1, none⟩ = some (.string sx) := by rw [← HW1.out, ← HG.out]; exact cell_first rfl
      have HGL : Hid (g < W1.heap.size) := by show _ < _; rw [← HW1.out, ← HG.out]; simp
      have HNB : Hid (∀ b ∈ blk Z, b < g) := fun b hb => by rw [← HG.out]; exact Row.blk_lt HR.out b hb
      have C2 : Hid (Calls Try.prog 85 #[.slice Z q d, .agg #[.int .i64 xk, .string sx]] W1 (PutOut W1 w.heap.size Z (insT o ⟨xk, xd⟩))) := by
        have := insert_any Z q d o ⟨xk, xd⟩ W1 w.heap.size HSR.out HXO.out (by have := HQL.out; omega) HB1.out.size HR1.out
        rw [← HSX.out]; exact this
      go_wp2_with fail
      rw [HW1.out, HG.out]
      go_wp2_with fail
      refine C2.out.mono ?_
      rintro e w2 ⟨Z2, q2, d2, rfl, hR2, hT2, hA2⟩
      have HB2 : Hid (Below w.heap.size w w2) := Turn.chain HB1.out hT2.out (Row.blk_ge HR1.out) HB1.out.size
      have KX : Hid (w2.cell? ⟨g, 0, none⟩ = some (.int .i64 xk)) := (same_cell (hT2.out.block g HGL.out fun hb => Nat.lt_irrefl _ (HNB.out g hb)) rfl).trans x1
      have x3 := KX.out
      clear x1 x2 e0 e1 hT2 hA2 C2
      rcases hk : (xk == 1) with _ | _
      · have HN : Hid (withT l (more.take (i + 1)) = insT o ⟨xk, xd⟩) := by
          show _ = _
          rw [HNX.out]
          unfold stepT
          rw [if_neg (by simpa using hk)]
        rw [← HN.out] at hR2
        go_wp2_with fail
        go_roundw
        case rel => exact ⟨i + 1, q2, d2, Z2, rfl, by go_num, by omega, hR2, HB2⟩
        case measure => simp [intOf]; omega
      · have HN : Hid (withT l (more.take (i + 1)) = insT (insT o ⟨xk, xd⟩) Th.zero) := by
          show _ = _
          rw [HNX.out]
          unfold stepT
          rw [if_pos (by simpa using hk)]
        have HQ2 : Hid (q2 ≤ 2901) := by
          have h1 := len_ins o ⟨xk, xd⟩
          rw [hR2.out.len, HR.out.len] at h1
          have := HQL.out
          show _ ≤ _; omega
        have C3 : Hid (Calls Try.prog 85 #[.slice Z2 q2 d2, .agg #[.int .i64 0, .string ByteArray.empty]] w2 (PutOut w2 w.heap.size Z2 (withT l (more.take (i + 1))))) := by
          have := insert_any Z2 q2 d2 (insT o ⟨xk, xd⟩) Th.zero w2 w.heap.size (srt_ins HSR.out) ok_zero (by have := HQ2.out; omega) HB2.out.size hR2.out
          rw [HN.out]; exact this
        go_wp2_with fail
        refine C3.out.mono ?_
        rintro e w3 ⟨Z3, q3, d3, rfl, hR3, hT3, hA3⟩
        have HB3 : Hid (Below w.heap.size w w3) := Turn.chain HB2.out hT3.out (Row.blk_ge hR2.out) HB2.out.size
        clear hT3 hA3 C3 x3
        go_wp2_with fail
        go_roundw
        case rel => exact ⟨i + 1, q3, d3, Z3, rfl, by go_num, by omega, hR3, HB3⟩
        case measure => simp [intOf]; omega
    · obtain rfl : i = m := by omega
      have HT : Hid (more.take i = more) := List.take_of_length_le (by rw [HML.out]; exact Nat.le_refl _)
      rw [HT.out] at HR
      go_wp2_with fail
      go_ret
      exact ⟨_, _, _, rfl, HR, HB⟩
end

section
open Go.RowKit

/-- The first i are clean. -/
def half (l : List Th) (i : Nat) : List Th := (l.take i).map cleanT ++ l.drop i
theorem half_len (l : List Th) (i : Nat) : (half l i).length = l.length := by
  unfold half
  rw [List.length_append, List.length_map, ← List.length_append, List.take_append_drop]
theorem half_zero (l : List Th) : half l 0 = l := by simp [half]
theorem half_all (l : List Th) {i : Nat} (h : l.length ≤ i) : half l i = l.map cleanT := by
  unfold half
  rw [List.take_of_length_le h, List.drop_of_length_le h, List.append_nil]
theorem half_at (l : List Th) {i : Nat} (h : i < l.length) : (half l i).getD i Th.zero = l.getD i Th.zero := by
  unfold half
  have e : ((l.take i).map cleanT).length = i := by rw [List.length_map, List.length_take]; omega
  rw [List.getD_eq_getElem?_getD, List.getElem?_append_right (by rw [e]; exact Nat.le_refl _), e, Nat.sub_self, List.getElem?_drop, Nat.add_zero, List.getD_eq_getElem?_getD]
theorem half_next (l : List Th) {i : Nat} (h : i < l.length) : half l (i + 1) = (half l i).set i (cleanT (l.getD i Th.zero)) := by
  have e : ((l.take i).map cleanT).length = i := by rw [List.length_map, List.length_take]; omega
  unfold half
  rw [take_next l i Th.zero h, List.map_append, List.append_assoc, List.set_append_right _ _ (by rw [e]; exact Nat.le_refl _), e, Nat.sub_self]
  congr 1
  rw [List.drop_eq_getElem_cons h, List.set_cons_zero]
  rfl
set_option maxHeartbeats 4000000 in
theorem cleaned_any (A : Option Addr) (n c : Nat) (l : List Th) (w : World) (hn : n ≤ 1400) (hA : thK.Lie w w.heap.size A n l) (hz : A = none → c = 0) :
    Calls Try.prog 70 #[.slice A n c] w (GivesT w (cleanedT l)) := by
  have C1 := Lib.hid (cloneTh_any A n c l w (by omega) hA hz)
  have HLL : Hid (l.length = n) := hA.len
  have HOK : Hid (∀ t ∈ l, ThOk t) := hA.all
  clear hA hz
  go_enter Try.func70, Try.ntmps70
  go_wp2_with fail
  refine C1.out.mono ?_
  rintro e w0 ⟨Z, n0, d, rfl, hR0, hB0⟩
  clear C1
  have hn0 : n0 = n := by rw [← hR0.out.len]; exact HLL.out
  subst hn0
  have HZ : Hid (0 < n0 → ∃ g, Z = some ⟨g, 0, none⟩) := fun h => row_some hR0.out h
  rw [show l = half l 0 from (half_zero l).symm] at hR0
  go_wp2_with fail
  go_loopw [9] (fun t9 wr => ∃ i : Nat, t9 = .int .i64 i ∧ i ≤ n0 ∧ Hid (thK.Row wr w.heap.size Z n0 d (half l i)) ∧ Hid (Below w.heap.size w wr)) (fun t9 _ => n0 - (intOf t9).toNat)
  case atStart => exact ⟨0, rfl, Nat.zero_le _, hR0, hB0⟩
  case round =>
    clear hR0 hB0
    obtain ⟨i, rfl, him, HR, HB⟩ := hrel
    by_cases hlt : i < n0
    · obtain ⟨g, rfl⟩ := HZ.out (by omega)
      obtain ⟨ad, hA, hblk, hat⟩ := th_at HR.out.lie hlt
      obtain rfl := Option.some.inj hA
      obtain ⟨⟨xk, xd⟩, HX⟩ : ∃ x, Hid (l.getD i Th.zero = x) := ⟨_, rfl⟩
      rw [half_at l (by rw [HLL.out]; exact hlt), HX.out] at hat
      obtain ⟨e0, e1⟩ := hat
      rw [add_zero_addr] at e0
      dsimp only at e0
      have i0 : (0 : Int) ≤ (i : Int) := by omega
      have i1 : (i : Int) < (n0 : Int) := by omega
      have HN := Lib.hid (half_next l (i := i) (by rw [HLL.out]; exact hlt))
      rw [HX.out] at HN
      rcases hk : (xk == 2) with _ | _
      · have HS : Hid (half l (i + 1) = half l i) := by
          show _ = _
          rw [HN.out]
          unfold cleanT
          rw [if_neg (by simpa using hk)]
          have h1 := half_at l (i := i) (by rw [HLL.out]; exact hlt)
          rw [HX.out] at h1
          rw [← h1]
          apply List.ext_getElem?
          intro j
          rw [List.getElem?_set]
          by_cases e : i = j
          · subst e
            have hl2 : i < (half l i).length := by rw [half_len, HLL.out]; exact hlt
            rw [if_pos rfl, if_pos hl2, List.getD_eq_getElem?_getD, List.getElem?_eq_getElem hl2]; rfl
          · rw [if_neg e]
        rw [← HS.out] at HR
        clear hA hblk e1
        go_wp2_with fail
        go_roundw
        case rel => exact ⟨i + 1, by go_num, by omega, HR, HB⟩
        case measure => simp [intOf]; omega
      · have hk2 : xk = 2 := by simpa using hk
        have hr := HR.out.put (i := i) (r := 0) hlt (by decide) (.int .i64 1) (cleanT ⟨xk, xd⟩) (by
          have h1 := half_at l (i := i) (by rw [HLL.out]; exact hlt)
          show thCells _ = (thCells ((half l i).getD i Th.zero)).set 0 _
          rw [h1, HX.out]
          unfold cleanT
          rw [if_pos hk2]; rfl) (by
          rw [← HX.out]
          exact ok_clean (HOK.out _ (by rw [List.getD_eq_getElem?_getD, List.getElem?_eq_getElem (by rw [HLL.out]; exact hlt)]; exact List.getElem_mem _)))
        rw [← HN.out, show i * thK.k + 0 = i * 2 from rfl] at hr
        have HR3 := Lib.hid hr
        have HB3 : Hid (Below w.heap.size w (wr.setCell ⟨g, i * 2, none⟩ (.int .i64 1))) := HB.out.setCell (by show w.heap.size ≤ g; exact Row.blk_ge HR.out g (by simp [blk])) _
        have f0 : wr.frozen? ⟨g, i * 2, none⟩ = false := HR.out.row.frozenAt _
        clear hr hA hblk e1 hk2
        go_wp2_with fail
        go_roundw
        case rel => exact ⟨i + 1, by go_num, by omega, HR3, HB3⟩
        case measure => simp [intOf]; omega
    · obtain rfl : i = n0 := by omega
      have HT : Hid (half l i = l.map cleanT) := half_all l (by rw [HLL.out]; exact Nat.le_refl _)
      rw [HT.out] at HR
      have C2 : Hid (Calls Try.prog 66 #[.slice none 0 0, .slice Z i d] wr (GivesT wr (cleanedT l))) :=
        with_any none Z 0 0 i d [] (l.map cleanT) wr srt_nil (fun t ht => by
          obtain ⟨u, hu, rfl⟩ := List.mem_map.1 ht
          exact ok_clean (HOK.out u hu)) (by omega) Kind.Lie.none_ (fun _ => rfl) HR.out.lie
      go_wp2_with fail
      refine C2.out.mono ?_
      rintro e w2 ⟨Z2, q2, d2, rfl, hR2, hB2⟩
      have HB3 : Hid (Below w.heap.size w w2) := below_chain HB.out hB2.out
      have HR3 : Hid (thK.Row w2 w.heap.size Z2 q2 d2 (cleanedT l)) := hR2.out.elder HB.out.size
      clear hR2 hB2 C2
      go_wp2_with fail
      go_ret
      exact ⟨_, _, _, rfl, HR3, HB3⟩
end
end Go.Proofs.Ytfidamiomnohcaa
