/- The contract of the statements' OverBytes: a row of the call's own is written over, and beyond; nothing else turns. Conditions: at most 900 bytes. -/
import Derived.Test.YtfhfjfgajbgdcaaOwn
set_option linter.unusedVariables false
set_option linter.unusedSimpArgs false
namespace Go.Proofs.Ytfhfjfgajbgdcaa
open Go.RowKit

theorem grownBy_trans {x y z : World} {row : Option Nat} (h : x.grownBy y row) (k : y.grownBy z row) : x.grownBy z row :=
  ⟨k.os.trans h.os, k.tape.trans h.tape, k.output.trans h.output, Nat.le_trans h.size k.size, fun i hi hr => (k.block i (Nat.lt_of_lt_of_le hi h.size) hr).trans (h.block i hi hr)⟩
theorem Own.kept {w w' : World} {base n c : Nat} {A : Option Addr} {bs : List Nat} {row : Option Nat} (h : Own w base A n c bs) (hg : w.grownBy w' row) (hne : ∀ b, row = some b → b < base) : Own w' base A n c bs := by
  refine ⟨h.row.kept hg ?_, h.small⟩
  cases hb : (Value.slice A n c).ownBlock with
  | none => exact Or.inl rfl
  | some k =>
    refine Or.inr fun e => ?_
    have h1 := (h.row.lt k hb).1
    have h2 := hne k e.symm
    omega
theorem Own.elsewhere {w w' : World} {B base n c : Nat} {A : Option Addr} {bs : List Nat} (h : Own w base A n c bs) (hg : w.grownBy w' (Value.slice A n c).ownBlock) (hB : B ≤ base) (hw : B ≤ w.heap.size) : Below B w w' :=
  (Below.refl B w).grown hg hw fun k hk => Nat.le_trans hB (h.row.lt k hk).1
theorem Own.block_lt {w : World} {base n c : Nat} {A : Option Addr} {bs : List Nat} (h : Own w base A n c bs) : ∀ b, (Value.slice A n c).ownBlock = some b → b < w.heap.size := fun b hb => (h.row.lt b hb).2
theorem own_at {W : World} {base n c : Nat} {A : Option Addr} {us : List Nat} (h : Own W base A n c us) (hn : 0 < n) : ∃ g, A = some ⟨g, 0, none⟩ ∧ base ≤ g ∧ g < W.heap.size := by
  rcases h.row.2 with ⟨_, h0⟩ | ⟨g, cap, cur, hv, hbg, hg, _⟩
  · omega
  · injection hv with e1 e2 e3
    exact ⟨g, e1, hbg, (Array.getElem?_eq_some_iff.1 hg).1⟩
theorem own_other {w w' : World} {base g b n c : Nat} {us : List Nat} (h : Own w base (some ⟨g, 0, none⟩) n c us) (hg : w.grownBy w' (some b)) (hn : g ≠ b) : Own w' base (some ⟨g, 0, none⟩) n c us :=
  ⟨h.row.kept hg (Or.inr fun e => hn (by simpa [Value.ownBlock] using e)), h.small⟩
theorem min_at (ts : Array TypeId) (ty : TypeId) (p q m : Int) (h : (p ≤ q ∧ m = p) ∨ (q ≤ p ∧ m = q)) (w : World) : (Builtin.min_ ts ty #[.int .i64 p, .int .i64 q]).run Try.prog w = .ok (.int .i64 m) w := by
  simp only [Builtin.min_]
  rcases h with ⟨h, rfl⟩ | ⟨h, rfl⟩
  · simp [Builtin.min2]; omega
  · simp [Builtin.min2]; omega
theorem Bytes.back {w w' : World} {B n : Nat} {A : Option Addr} {bs : List Nat} (h : Bytes w' B A n bs) (hb : Below B w w') : Bytes w B A n bs := ⟨h.len, h.lies.kept fun p hp => (hb.cell hp).symm, h.small⟩
theorem setCell_else (w : World) (p : Addr) (v : Value) : w.grownBy (w.setCell p v) (some p.block) :=
  ⟨rfl, rfl, rfl, by simp, fun k hk hn => by simp only [World.setCell]; rw [Array.getElem?_modify]; rw [if_neg (fun e => hn (by rw [e]))]⟩
theorem grownBy_setCell (w : World) (g j : Nat) (v : Value) : w.grownBy (w.setCell ⟨g, j, none⟩ v) (some g) :=
  ⟨rfl, rfl, rfl, by simp [World.setCell], fun i _ hr => by
    have : g ≠ i := fun e => hr (by rw [e])
    simp [World.setCell, Array.getElem?_modify, this]⟩
theorem own_append_g {w W : World} {A A' : Option Addr} {n c m c' base : Nat} {bs cs : List Nat} (h : Own W base A n c bs) (hbase : base ≤ W.heap.size) (Y : Int) (y : Nat) (hY : Y = (y : Int)) (hy : y < 256) (hn : n + 1 ≤ 1000) :
    ∃ v2 W2, (Builtin.append_ #[34, 34] 34 #[.slice A n c, .slice (some ⟨W.heap.size, 0, none⟩) 1 1]).run Try.prog (W.alloc (.cells #[.int .u8 Y] 5)) = .ok v2 W2 ∧ W.grownBy W2 (Value.slice A n c).ownBlock := by
  obtain ⟨i0, hi, hz0, hz1, hz2⟩ := info_parts info5
  have hb := bytes_new1 W Y y hY hy
  obtain ⟨v', W', hr, ho, hg, _⟩ := run_append_own (P := Try.prog) (W.alloc (.cells #[.int .u8 Y] 5)) base 34 34 5 i0 _ 1 1 Try.underlying34 hi hz0 hz1 hz2 rfl (by omega) _ n (cellsOf bs) (h.row.alloc _) ⟨W.heap.size, 0, none⟩ 1 1 [.int .u8 Y] rfl
    (fun j u hu => by
      rcases j with _ | j
      · rw [add_zero_addr, cell_new]; exact hu
      · simp at hu) (by intro u hu; simp at hu; subst hu; rfl) (by unfold maxLen; omega) (by omega) (by simp; omega)
  exact ⟨v', W', hr, grownBy_trans (World.grownBy_alloc _ _ _) hg⟩
set_option maxHeartbeats 1000000 in
theorem over_any (A : Option Addr) (n c base : Nat) (bs : List Nat) (w : World) (hn : n ≤ 900) (hbase : base ≤ w.heap.size) (hO : Own w base A n c bs) :
    Calls Try.prog 29 #[.slice A n c] w fun e w' => e = .returned (.tuple #[]) ∧ w.grownBy w' (Value.slice A n c).ownBlock := by
  rcases hO.row.2 with ⟨hv, hn0⟩ | ⟨g, cap, cur, hv, hbg, hg, hrest⟩
  · injection hv with e1 e2 e3
    subst e1 e3
    subst hn0
    obtain ⟨v2, W2, hr, hg2⟩ := own_append_g (w := w) (A' := none) (m := 0) (c' := 0) (cs := []) hO hbase 238 238 rfl (by omega) (by omega)
    have R := Lib.hid hr
    have HG := Lib.hid hg2
    clear hO hr hg2
    go_enter Try.func29, Try.ntmps29
    go_wp2_with fail
    go_loop [2] (fun t2 => t2 = .int .i64 0) (fun _ => 0)
    case atStart => rfl
    case round =>
      subst hrel
      go_wp2_with (at_builtin; refine wpList_append_run rfl (.tmp 12) (.tmp 13) 34 rfl rfl rfl R.out ?_)
      go_end0
      exact ⟨rfl, HG.out⟩
  · injection hv with e1 e2 e3
    subst e1
    subst e3
    have HO := Lib.hid hO
    clear hO hg e2 hbg hrest
    go_enter Try.func29, Try.ntmps29
    go_wp2_with fail
    go_loopw [2] (fun t2 wr => ∃ (j : Nat) (cs : List Nat), t2 = .int .i64 j ∧ j ≤ n ∧ Hid (Own wr base (some ⟨g, 0, none⟩) n c cs) ∧ Hid (w.grownBy wr (some g))) (fun t2 _ => n - (intOf t2).toNat)
    case atStart => exact ⟨0, bs, rfl, by omega, HO, World.grownBy.refl _ _⟩
    case round =>
      obtain ⟨j, cs, rfl, hj, HO2, HG⟩ := hrel
      by_cases hlt : j < n
      · obtain ⟨ad, hA, hblk, hcell⟩ := HO2.out.bytes.at_ hlt
        obtain rfl := Option.some.inj hA
        rw [add_zero_addr] at hcell
        obtain ⟨u, HU⟩ : ∃ u : Value, Hid (u = .int .u8 ((cs.getD j 0 : Nat) : Int)) := ⟨_, rfl⟩
        rw [← HU.out] at hcell
        have hf : wr.frozen? ⟨g, j, none⟩ = false := HO2.out.row.frozenAt j
        obtain ⟨ho3, hg3⟩ := HO2.out.row.stored j (.int .u8 238)
        have HO3 : Hid (Own (wr.setCell ⟨g, j, none⟩ (.int .u8 238)) base (some ⟨g, 0, none⟩) n c (cs.set j 238)) := by
          refine ⟨?_, fun k => ?_⟩
          · have e : cellsOf (cs.set j 238) = (cellsOf cs).set j (.int .u8 238) := by unfold cellsOf; rw [List.map_set]; rfl
            rw [e]; exact ho3
          · rw [List.getD_eq_getElem?_getD, List.getElem?_set]
            have := HO2.out.small k
            rw [List.getD_eq_getElem?_getD] at this
            by_cases hjk : j = k
            · by_cases hl : j < cs.length <;> simp [hjk] <;> split <;> simp
            · simpa [hjk] using this
        have HG3 := Lib.hid (grownBy_trans HG.out hg3)
        clear ho3 hg3
        go_wp2
        go_roundw
        case rel => exact ⟨j + 1, _, by go_num, by omega, HO3, HG3⟩
        case measure => simp [intOf]; omega
      · obtain ⟨v2, W2, hr, hg2⟩ := own_append_g (w := w) (A' := none) (m := 0) (c' := 0) (cs := []) HO2.out (Nat.le_trans hbase HG.out.size) 238 238 rfl (by omega) (by omega)
        have R := Lib.hid hr
        have HG2 := Lib.hid (grownBy_trans HG.out hg2)
        clear hr hg2
        go_wp2_with (at_builtin; refine wpList_append_run rfl (.tmp 12) (.tmp 13) 34 rfl rfl rfl R.out ?_)
        go_end0
        exact ⟨rfl, HG2.out⟩
end Go.Proofs.Ytfhfjfgajbgdcaa
