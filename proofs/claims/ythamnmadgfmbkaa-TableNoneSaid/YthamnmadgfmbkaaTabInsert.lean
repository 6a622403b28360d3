/- slices.Insert of one entry: at the end, with room, without. Conditions: the row's cells; fewer than 120 entries. -/
import Derived.Test.YthamnmadgfmbkaaTabDelete
set_option linter.unusedVariables false
set_option linter.unusedSimpArgs false
namespace Go.Proofs.Ythamnmadgfmbkaa
open Go.RowKit

theorem rowEn_lie {w : World} {p : Nat} {x : E} (h : RowEn w p x) (hx : EWf x) : entK.Lie w w.heap.size (some ⟨p, 0, none⟩) 1 [x] :=
  Kind.lie_of rfl (fun u hu => by rw [List.mem_singleton.1 hu]; exact hx) h.lt fun j u hu => by
    rw [cell_of_row _ _ _ _ _ _ h.row]
    have : entK.cells [x] = [.int .u64 x.addr, .int .i64 x.page, .bool x.dirty, .int .i64 x.seq] := rfl
    rw [this] at hu
    simpa using hu
theorem row_some {α : Type} {K : Kind α} {w : World} {base n c : Nat} {A : Option Addr} {vs : List α} (h : K.Row w base A n c vs) (hn : 0 < n) : ∃ r, A = some ⟨r, 0, none⟩ := by
  rcases h.row.2 with ⟨_, h0⟩ | ⟨r, cap, cur, hv, _⟩
  · omega
  · injection hv with e
    exact ⟨r, e⟩
theorem ins_grown {α : Type} (l : List α) (x d : α) (i n q : Nat) (hl : l.length = n) (hi : i < n) (hq : i + q = n + 1) :
    ((l.take i ++ List.replicate q d).take i ++ [x] ++ (l.take i ++ List.replicate q d).drop (i + 1)).take (i + 1) ++ l.drop i ++ ((l.take i ++ List.replicate q d).take i ++ [x] ++ (l.take i ++ List.replicate q d).drop (i + 1)).drop (i + 1 + (n - i)) = l.take i ++ x :: l.drop i := by
  have h1 : (l.take i).length = i := by rw [List.length_take, hl]; omega
  have h2 : (l.take i ++ List.replicate q d).take i = l.take i := by
    conv => lhs; rw [show i = (l.take i).length from h1.symm]
    rw [h1, List.take_append_of_le_length (by rw [h1]; omega), List.take_take, Nat.min_self]
  have h3 : (l.take i ++ [x]).length = i + 1 := by rw [List.length_append, h1]; rfl
  rw [h2]
  have h4 : (l.take i ++ [x] ++ (l.take i ++ List.replicate q d).drop (i + 1)).take (i + 1) = l.take i ++ [x] := by
    rw [List.take_append_of_le_length (by rw [h3]; omega), List.take_of_length_le (by rw [h3]; omega)]
  have h5 : (l.take i ++ [x] ++ (l.take i ++ List.replicate q d).drop (i + 1)).drop (i + 1 + (n - i)) = [] := by
    refine List.drop_eq_nil_of_le ?_
    rw [List.length_append, h3, List.length_drop, List.length_append, h1, List.length_replicate]; omega
  rw [h4, h5, List.append_nil, List.append_assoc]; rfl
/-- What it leaves. -/
def InsOut (w : World) (base g n : Nat) (l : List E) (e : Ending) (w' : World) : Prop :=
  ∃ r c, e = .returned (.slice (some ⟨r, 0, none⟩) n c) ∧ entK.Row w' base (some ⟨r, 0, none⟩) n c l ∧ Turn (fun b => b = g) w w' ∧ (r = g ∨ w.heap.size ≤ r)
section
variable {w : World} {base g n c i p : Nat} {l : List E} {x : E}
set_option maxHeartbeats 4000000 in
theorem insE_end (h : entK.Row w base (some ⟨g, 0, none⟩) n c l) (hx : EWf x) (hp : RowEn w p x) (hb : base ≤ w.heap.size) (hn : n < 120) :
    Calls Try.prog 37 #[.slice (some ⟨g, 0, none⟩) n c, .int .i64 (n : Int), .slice (some ⟨p, 0, none⟩) 1 1] w (InsOut w base g (n + 1) (l ++ [x])) := by
  have hL := rowEn_lie hp hx
  obtain ⟨A2, c2, W2, hr, hR, hG⟩ := Kind.append_b (c' := 1) hb h hL (by omega)
  have hat := Kind.append_at (c' := 1) h hL (by omega) hr
  obtain ⟨r, rfl⟩ := row_some hR (by omega)
  have HR := Lib.hid hR
  have HA : Hid (r = g ∨ w.heap.size ≤ r) := by
    rcases hat r rfl with e | e
    · exact Or.inl (Option.some.inj e).symm
    · exact Or.inr e
  have HT : Hid (Turn (fun b => b = g) w W2) := Turn.of_grown hG fun b e => (Option.some.inj e).symm
  have R := Lib.hid hr
  have hcap : n ≤ c := h.cap
  have i0 : (0 : Int) ≤ (n : Int) := by omega
  obtain ⟨v0, HV0⟩ : ∃ v, Hid (Value.slice (if c = n then some ⟨g, 0, none⟩ else some ⟨g, n * entK.k, none⟩) (n - n) (c - n) = v) := ⟨_, rfl⟩
  have hs0 : ∀ W : World, (Instr.slice 27 (.slice (some ⟨g, 0, none⟩) n c) (some (.int .i64 (n : Int))) none none).run Try.prog W = .ok v0 W := fun W => HV0.out ▸ entK.slice_from_at g n c n (Nat.le_refl _) hcap W
  clear h hL hp hr hR hG hat
  go_enter Try.func37, Try.ntmps37
  go_wp2_with (at_builtin; refine wpList_append_run rfl (.tmp 23) (.tmp 24) 27 rfl rfl rfl R.out ?_)
  go_ret
  exact ⟨_, _, rfl, HR.out, HT.out, HA.out⟩
theorem copy_own_room (h : entK.Row w base (some ⟨g, 0, none⟩) n c l) (hp : RowEn w p x) : p ≠ g → w.shape? p = some (32, 4) ∧ (∃ k, w.shape? g = some (32, k) ∧ (0 < c → k ≠ 0)) := fun _ => by
  obtain ⟨cur, h1, h2, h3, h4, h5, h6⟩ := h.open_
  refine ⟨by simp [World.shape?, hp.row], cur.size, by simp [World.shape?, h2]; rfl, fun hc => ?_⟩
  rw [h5]
  exact Nat.mul_ne_zero (by omega) (by decide)
theorem sizeE (W : World) : (Go.sizeOf 32).run Try.prog W = .ok 4 W := by
  obtain ⟨i0, hi, hz0, hz1, hz2⟩ := info_parts infoE
  simp [sizeOf, typeInfo, hi, hz1]
set_option maxHeartbeats 8000000 in
set_option maxRecDepth 20000 in
theorem insE_room (h : entK.Row w base (some ⟨g, 0, none⟩) n c l) (hx : EWf x) (hp : RowEn w p x) (hpg : p ≠ g) (hi : i < n) (hc : n < c) (hn : n < 120) :
    Calls Try.prog 37 #[.slice (some ⟨g, 0, none⟩) n c, .int .i64 (i : Int), .slice (some ⟨p, 0, none⟩) 1 1] w (InsOut w base g (n + 1) (l.take i ++ x :: l.drop i)) := by
  have hD : Below w.heap.size w w.drew := (Below.refl _ _).drew
  have hL := (rowEn_lie hp hx).since hD
  obtain ⟨W1, W2, r1, r2, hR, hG⟩ := (h.since hD).insert (c' := 1) hL hpg hi hc 3
  obtain ⟨hs1, kg, hs2, hs3⟩ := copy_own_room h hp hpg
  obtain ⟨n1, HN1⟩ : ∃ q, Hid (n + 1 = q) := ⟨_, rfl⟩
  obtain ⟨j, HJ⟩ : ∃ q, Hid (i + 1 = q) := ⟨_, rfl⟩
  rw [HN1.out, HJ.out] at r1
  rw [HN1.out] at r2 hR ⊢
  have HR := Lib.hid hR
  have HT : Hid (Turn (fun b => b = g) w W2) := (Turn.of_below (fp := fun b => b = g) hD).trans (Turn.of_grown (fp := fun b => b = g) hG fun b e => (Option.some.inj e).symm) fun b hb => Or.inl hb
  have hov : ∀ lb cb, (callFunc 43 #[.slice (some ⟨p, 0, none⟩) 1 1, .slice (some ⟨g, j * entK.k, none⟩) lb cb]).run Try.prog w = .ok (.value (.bool false)) w := fun lb cb => by
    rw [run_callFunc_extern Try.func43 (by kernel_rfl) (by kernel_rfl) (by kernel_rfl) (e := Extern.SlicesOverlaps.overlaps #[27, 27] #[4]) (by kernel_rfl),
      Lib.run_overlaps_apart w 27 4 32 Try.underlying27 4 sizeE ⟨p, 0, none⟩ ⟨g, j * entK.k, none⟩ 1 1 lb cb hpg 32 32 4 kg hs1 hs2 (hs3 (by omega)) (hp.free 0) (hp.free 4)]
    rfl
  have hcap : n ≤ c := h.cap
  obtain ⟨v0, HV0⟩ : ∃ v, Hid (Value.slice (if c = i then some ⟨g, 0, none⟩ else some ⟨g, i * entK.k, none⟩) (n - i) (c - i) = v) := ⟨_, rfl⟩
  have hl0 : ∀ W : World, (Instr.slice 27 (.slice (some ⟨g, 0, none⟩) n c) (some (.int .i64 (i : Int))) none none).run Try.prog W = .ok v0 W := fun W => HV0.out ▸ entK.slice_from_at g n c i (Nat.le_of_lt hi) hcap W
  have hl1 : ∀ W : World, (Instr.slice 27 (.slice (some ⟨g, 0, none⟩) n c) none (some (.int .i64 (n1 : Int))) none).run Try.prog W = .ok (.slice (some ⟨g, 0, none⟩) n1 c) W := fun W => by
    have hu : Try.prog.underlying entK.L = some (.slice (Try.prog.elem entK.L)) := by rw [entK.elem]; exact entK.under
    have h := run_slice_h (P := Try.prog) (w := W) entK.L (some ⟨g, 0, none⟩) n c hu .i64 (n1 : Int) (by omega) (by rw [← HN1.out]; omega)
    refine h.trans ?_
    rw [entK.elem]
    simp [entK, sizeE, sliced, add_none]
  have hj1 : j ≤ n1 := by rw [← HJ.out, ← HN1.out]; omega
  have hn1 : n1 ≤ c := by rw [← HN1.out]; omega
  have hjc : j < c := by rw [← HJ.out]; omega
  have hi1 : i ≤ n1 := by rw [← HN1.out]; omega
  have hl2 : ∀ W : World, (Instr.slice 27 (.slice (some ⟨g, 0, none⟩) n1 c) (some (.int .i64 (j : Int))) none none).run Try.prog W = .ok (.slice (some ⟨g, j * entK.k, none⟩) (n1 - j) (c - j)) W := fun W => by
    have := entK.slice_from_at g n1 c j hj1 hn1 W
    rwa [if_neg (by omega)] at this
  have hl3 : ∀ W : World, (Instr.slice 27 (.slice (some ⟨g, 0, none⟩) n1 c) (some (.int .i64 (i : Int))) none none).run Try.prog W = .ok (.slice (some ⟨g, i * entK.k, none⟩) (n1 - i) (c - i)) W := fun W => by
    have := entK.slice_from_at g n1 c i hi1 hn1 W
    rwa [if_neg (by omega)] at this
  have z1 : (n : Int) + 1 = (n1 : Int) := by rw [← HN1.out]; omega
  have z2 : (i : Int) + 1 = (j : Int) := by rw [← HJ.out]; omega
  have hw1 : IntKind.i64.wrap (j : Int) = (j : Int) := by rw [IntKind.wrap_i64, ← HJ.out]; omega
  have z3 : ¬ ((n1 : Int) > (c : Int)) := by omega
  have z4 : ¬ ((i : Int) = (n : Int)) := by omega
  have hij := hov (n1 - j) (c - j)
  obtain ⟨v2, HV2⟩ : ∃ v, Hid (Value.slice (some ⟨g, j * entK.k, none⟩) (n1 - j) (c - j) = v) := ⟨_, rfl⟩
  obtain ⟨v3, HV3⟩ : ∃ v, Hid (Value.slice (some ⟨g, i * entK.k, none⟩) (n1 - i) (c - i) = v) := ⟨_, rfl⟩
  rw [HV2.out] at hl2 r1 hij
  rw [HV3.out] at hl3 r1 r2
  have R1 := Lib.hid r1
  have R2 : Hid ((Builtin.copy_ #[27, 27] 3 #[v3, .slice (some ⟨p, 0, none⟩) 1 1]).run Try.prog W1 = .ok (.int .i64 (1 : Nat)) W2) := r2
  have i0 : (0 : Int) ≤ (i : Int) := by omega
  have HOV := Lib.hid hij
  clear h hL hp hR hG hD r1 r2 hov hs1 hs2 hs3 hij
  go_enter Try.func37, Try.ntmps37
  go_wp2_with (simp only [HOV.out])
  go_region_law (refine step_copy_k rfl _ _ 27 27 rfl (by simp [Act.eval, Act.put]) (by simp [Act.eval, Act.put]) R1.out ?_)
  go_wp2_with (simp only [R2.out])
  go_ret
  exact ⟨_, _, rfl, HR.out, HT.out, Or.inl rfl⟩
set_option maxHeartbeats 8000000 in
set_option maxRecDepth 20000 in
theorem insE_grow (h : entK.Row w base (some ⟨g, 0, none⟩) n c l) (hx : EWf x) (hp : RowEn w p x) (hb : base ≤ w.heap.size) (hg : g < w.heap.size) (hi : i < n) (hc : c < n + 1) (hn : n < 120) :
    Calls Try.prog 37 #[.slice (some ⟨g, 0, none⟩) n c, .int .i64 (i : Int), .slice (some ⟨p, 0, none⟩) 1 1] w (InsOut w base g (n + 1) (l.take i ++ x :: l.drop i)) := by
  have hcap : n ≤ c := h.cap
  have hL := rowEn_lie hp hx
  obtain ⟨q, HQ⟩ : ∃ q, Hid (n + 1 - i = q) := ⟨_, rfl⟩
  have hq := HQ.out
  have hiq : i + q = n + 1 := by omega
  obtain ⟨c2, W1, r1, hR1, hB1⟩ := h.grow entK_zero (i := i) (m := q) (tn := 3) (ty := 27) (kn := .i64) hb (Nat.le_of_lt hi) (by omega) (by omega) (by omega) Try.underlying3
  have hcap1 := hR1.cap
  obtain ⟨n1, HN1⟩ : ∃ q, Hid (n + 1 = q) := ⟨_, rfl⟩
  obtain ⟨j, HJ⟩ : ∃ q, Hid (i + 1 = q) := ⟨_, rfl⟩
  rw [hiq, HN1.out] at r1 hR1 hcap1
  obtain ⟨b, HBN⟩ : ∃ b, Hid (w.heap.size = b) := ⟨_, rfl⟩
  rw [HBN.out] at r1 hR1
  have hn1 := HN1.out
  have hj := HJ.out
  obtain ⟨W2, r2, hR2, hG2⟩ := hR1.copy (o := i) (m := 1) (dLen := n1 - i) (dCap := c2 - i) (sCap := 1) (hL.since hB1) (by omega) (by omega) 3
  have hb2 : Below w.heap.size w W2 := hB1.grown hG2 hB1.size fun k e => by rw [HBN.out, ← Option.some.inj e]; exact Nat.le_refl _
  have hD : Below W2.heap.size W2 W2.drew := (Below.refl _ _).drew
  have hb3 := below_chain hb2 hD
  have hS : entK.Lie W2.drew W2.drew.heap.size (some ⟨g, i * entK.k, none⟩) (n - i) (l.drop i) := by
    have := (h.since hb3).lie.rest (k := i) (c := c) (Nat.le_of_lt hi) hcap
    rw [if_neg (by omega)] at this
    simpa only [Option.map_some, Kind.add_zero_k] using this
  obtain ⟨W3, r3, hR3, hG3⟩ := (hR2.since hD).copy (o := j) (m := n - i) (dLen := n1 - j) (dCap := c2 - j) (sCap := c - i) hS (by omega) (by omega) 3
  have hb4 : Below w.heap.size w W3 := hb3.grown hG3 hb3.size fun k e => by rw [HBN.out, ← Option.some.inj e]; exact Nat.le_refl _
  have HR : Hid (entK.Row W3 base (some ⟨b, 0, none⟩) n1 c2 (l.take i ++ x :: l.drop i)) := by
    have := hR3
    rw [← hj, ins_grown l x entK.dflt i n q h.len hi hiq] at this
    exact this
  have HT : Hid (Turn (fun b => b = g) w W3) := Turn.of_below hb4
  have HBZ : Hid (b = g ∨ w.heap.size ≤ b) := Or.inr (Nat.le_of_eq HBN.out)
  obtain ⟨v0, HV0⟩ : ∃ v, Hid (Value.slice (if c = i then some ⟨g, 0, none⟩ else some ⟨g, i * entK.k, none⟩) (n - i) (c - i) = v) := ⟨_, rfl⟩
  have hl0 : ∀ W : World, (Instr.slice 27 (.slice (some ⟨g, 0, none⟩) n c) (some (.int .i64 (i : Int))) none none).run Try.prog W = .ok v0 W := fun W => HV0.out ▸ entK.slice_from_at g n c i (Nat.le_of_lt hi) hcap W
  have hv0 : v0 = .slice (some ⟨g, i * entK.k, none⟩) (n - i) (c - i) := by rw [← HV0.out, if_neg (by omega)]
  have hl1 : ∀ W : World, (Instr.slice 27 (.slice (some ⟨g, 0, none⟩) n c) none (some (.int .i64 (i : Int))) none).run Try.prog W = .ok (.slice (some ⟨g, 0, none⟩) i c) W := fun W => entK.slice_to (some ⟨g, 0, none⟩) n c i (Nat.le_of_lt hi) hcap W
  have hl2 : ∀ W : World, (Instr.slice 27 (.slice (some ⟨b, 0, none⟩) n1 c2) (some (.int .i64 (j : Int))) none none).run Try.prog W = .ok (.slice (some ⟨b, j * entK.k, none⟩) (n1 - j) (c2 - j)) W := fun W => by
    have := entK.slice_from_at b n1 c2 j (by omega) hcap1 W
    rwa [if_neg (by omega)] at this
  have hl3 : ∀ W : World, (Instr.slice 27 (.slice (some ⟨b, 0, none⟩) n1 c2) (some (.int .i64 (i : Int))) none none).run Try.prog W = .ok (.slice (some ⟨b, i * entK.k, none⟩) (n1 - i) (c2 - i)) W := fun W => by
    have := entK.slice_from_at b n1 c2 i (by omega) hcap1 W
    rwa [if_neg (by omega)] at this
  have z1 : (n : Int) + 1 = (n1 : Int) := by omega
  have z2 : (i : Int) + 1 = (j : Int) := by omega
  have z3 : (n1 : Int) > (c : Int) := by omega
  have z4 : ¬ ((i : Int) = (n : Int)) := by omega
  have z5 : (n1 : Int) - (i : Int) = (q : Int) := by omega
  have hw1 : IntKind.i64.wrap (j : Int) = (j : Int) := by rw [IntKind.wrap_i64]; omega
  rw [← hv0] at r3
  obtain ⟨v2, HV2⟩ : ∃ v, Hid (Value.slice (some ⟨b, j * entK.k, none⟩) (n1 - j) (c2 - j) = v) := ⟨_, rfl⟩
  obtain ⟨v3, HV3⟩ : ∃ v, Hid (Value.slice (some ⟨b, i * entK.k, none⟩) (n1 - i) (c2 - i) = v) := ⟨_, rfl⟩
  rw [HV2.out] at hl2 r3
  rw [HV3.out] at hl3 r2
  have R1 := Lib.hid r1
  have R2 : Hid ((Builtin.copy_ #[27, 27] 3 #[v3, .slice (some ⟨p, 0, none⟩) 1 1]).run Try.prog W1 = .ok (.int .i64 (1 : Nat)) W2) := r2
  have R3 := Lib.hid r3
  have i0 : (0 : Int) ≤ (i : Int) := by omega
  rw [HN1.out]
  clear h hL hp r1 r2 r3 hR1 hB1 hR2 hG2 hb2 hD hb3 hS hR3 hG3 hb4 hq hn1 hj hv0 hiq
  go_enter Try.func37, Try.ntmps37
  go_wp2_with (at_builtin; refine Lib.wpList_append_run _ rfl (.tmp 34) (.tmp 39) 27 3 rfl _ _ rfl rfl _ _ R1.out ?_)
  go_wp2_with (simp only [R2.out])
  go_region_law (refine step_copy_k rfl _ _ 27 27 rfl (by simp [Act.eval, Act.put]) (by simp [Act.eval, Act.put]) R3.out ?_)
  go_wp2_with fail
  go_ret
  exact ⟨_, _, rfl, HR.out, HT.out, HBZ.out⟩
/-- slices.Insert of one entry. -/
theorem insE_any (h : entK.Row w base (some ⟨g, 0, none⟩) n c l) (hx : EWf x) (hp : RowEn w p x) (hpg : p ≠ g) (hb : base ≤ w.heap.size) (hg : g < w.heap.size) (hi : i ≤ n) (hn : n < 120) :
    Calls Try.prog 37 #[.slice (some ⟨g, 0, none⟩) n c, .int .i64 (i : Int), .slice (some ⟨p, 0, none⟩) 1 1] w (InsOut w base g (n + 1) (l.take i ++ x :: l.drop i)) := by
  by_cases h1 : i = n
  · subst h1
    have e : l.take i ++ x :: l.drop i = l ++ [x] := by rw [List.take_of_length_le (Nat.le_of_eq h.len), List.drop_of_length_le (Nat.le_of_eq h.len)]
    rw [e]
    exact insE_end h hx hp hb hn
  · by_cases h2 : n < c
    · exact insE_room h hx hp hpg (by omega) h2 hn
    · exact insE_grow h hx hp hb hg (by omega) (by omega) hn
end
end Go.Proofs.Ythamnmadgfmbkaa
