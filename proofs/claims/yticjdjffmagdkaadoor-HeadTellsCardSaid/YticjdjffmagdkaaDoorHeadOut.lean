/- What a call of Lay leaves, whether it goes well or not, in one form; for regions that draw their order. Conditions: what the listed variables hold; the slices' cells. -/
import Derived.Test.YticjdjffmagdkaaDoorHeadOf
import Derived.Test.YticjdjffmagdkaaDoorRegion
set_option linter.unusedVariables false
set_option linter.unusedSimpArgs false
namespace Go.Proofs.YticjdjffmagdkaaDoor
open Go.RowKit

def hN (K A S G : Int) : Hd.H := ⟨K.toNat, A.toNat, S.toNat, G.toNat⟩
/-- What Lay answers. -/
def layO (bs : List Nat) (K A S G : Int) : Option (List Nat) := if dataB (bs.length : Int) = true ∧ mayB K A S G = true then some (Hd.page bs (hN K A S G)) else none
theorem layO_yes {bs : List Nat} {K A S G : Int} (h1 : dataB (bs.length : Int) = true) (h2 : mayB K A S G = true) : layO bs K A S G = some (Hd.page bs (hN K A S G)) := if_pos ⟨h1, h2⟩
theorem layO_no {bs : List Nat} {K A S G : Int} (h : ¬(dataB (bs.length : Int) = true ∧ mayB K A S G = true)) : layO bs K A S G = none := if_neg h
theorem hN_ok {K A S G : Int} (h : mayB K A S G = true) (a0 : 0 ≤ A) (a1 : A ≤ 18446744073709551615) : Hd.Ok (hN K A S G) := by
  have b := mayB_out h
  exact ⟨by show 1 ≤ S.toNat; omega, by show S.toNat ≤ _; omega, by show G.toNat ≤ _; omega, by show (K.toNat = 1 ∨ K.toNat = 2) ∨ (K.toNat = 3 ∨ K.toNat = 4) ∧ A.toNat = 0; omega, by show A.toNat < _; omega⟩
/-- The bytes that were answered, or none. -/
def OutS (base : Nat) (o : Option (List Nat)) (v : Value) (w : World) : Prop := match o with
  | some ps => ∃ A n c, v = .slice A n c ∧ Own w base A n c ps
  | none => v = .slice none 0 0
/-- The error: none, or that it may not be. -/
def OutE (o : Option (List Nat)) (v : Value) (w : World) : Prop := match o with
  | some _ => v = .nilIface
  | none => Bad w v
/-- The document's own: a number. -/
def RefE (o : Option (List Nat)) (v : Value) (_ : World) : Prop := v = .int .i64 (if o.isSome then 0 else 2)
def OutT (E : Option (List Nat) → Value → World → Prop) (base : Nat) (o : Option (List Nat)) (v : Value) (w : World) : Prop := ∃ x y, v = .tuple #[x, y] ∧ OutS base o x w ∧ E o y w
theorem outS_later {base : Nat} {o : Option (List Nat)} {v : Value} {w w' : World} (h : OutS base o v w) (hb : Later w w') : OutS base o v w' := by
  cases o with
  | none => exact h
  | some ps =>
    obtain ⟨A, n, c, e, ho⟩ := h
    exact ⟨A, n, c, e, ho.since hb⟩
theorem outE_later {o : Option (List Nat)} {v : Value} {w w' : World} (h : OutE o v w) (hb : Later w w') : OutE o v w' := by
  cases o with
  | none => exact Bad.since h hb
  | some ps => exact h
theorem refE_later {o : Option (List Nat)} {v : Value} {w w' : World} (h : RefE o v w) (hb : Later w w') : RefE o v w' := h
theorem outT_later {E : Option (List Nat) → Value → World → Prop} (hE : ∀ (o : Option (List Nat)) (v : Value) (w w' : World), E o v w → Later w w' → E o v w') {base : Nat} {o : Option (List Nat)} {v : Value} {w w' : World} (h : OutT E base o v w) (hb : Later w w') : OutT E base o v w' := by
  obtain ⟨x, y, e, h1, h2⟩ := h
  exact ⟨x, y, e, outS_later h1 hb, hE _ _ _ _ h2 hb⟩
theorem outTE_later {base : Nat} {o : Option (List Nat)} {v : Value} {w w' : World} (h : OutT OutE base o v w) (hb : Later w w') : OutT OutE base o v w' := outT_later (E := OutE) (fun _ _ _ _ h k => outE_later h k) h hb
theorem outTR_later {base : Nat} {o : Option (List Nat)} {v : Value} {w w' : World} (h : OutT RefE base o v w) (hb : Later w w') : OutT RefE base o v w' := outT_later (E := RefE) (fun _ _ _ _ h k => refE_later h k) h hb
theorem OutS.elder {base base' : Nat} {o : Option (List Nat)} {v : Value} {w : World} (h : OutS base o v w) (hb : base' ≤ base) : OutS base' o v w := by
  cases o with
  | none => exact h
  | some ps =>
    obtain ⟨A, n, c, e, ho⟩ := h
    exact ⟨A, n, c, e, ho.elder hb⟩
theorem OutT.elder {E : Option (List Nat) → Value → World → Prop} {base base' : Nat} {o : Option (List Nat)} {v : Value} {w : World} (h : OutT E base o v w) (hb : base' ≤ base) : OutT E base' o v w := by
  obtain ⟨x, y, e, h1, h2⟩ := h
  exact ⟨x, y, e, h1.elder hb, h2⟩
theorem OutS.slice {base : Nat} {o : Option (List Nat)} {v : Value} {w : World} (h : OutS base o v w) : ∃ A n c, v = .slice A n c ∧ Own w base A n c (o.getD []) := by
  cases o with
  | none => exact ⟨none, 0, 0, h, Own.none_⟩
  | some ps => exact h
theorem run_load_head {W : World} {g : Nat} {K A S G : Int} (h : HeadAt W g K A S G) : (Instr.loadAt 25 (.pointer (some ⟨g, 0, none⟩))).run Tryd.prog W = .ok (.agg #[.int .i64 K, .int .u64 A, .int .i64 S, .int .i64 G]) W := by
  obtain ⟨c0, c1, c2, c3⟩ := h
  go_simp
theorem run_store_head {W : World} {g : Nat} {K0 A0 S0 G0 : Int} (h : Row4 W g K0 A0 S0 G0) (K A S G : Int) : (Instr.storeAt 25 (.pointer (some ⟨g, 0, none⟩)) (.agg #[.int .i64 K, .int .u64 A, .int .i64 S, .int .i64 G])).run Tryd.prog W = .ok () ((((W.setCell ⟨g, 0, none⟩ (.int .i64 K)).setCell ⟨g, 1, none⟩ (.int .u64 A)).setCell ⟨g, 2, none⟩ (.int .i64 S)).setCell ⟨g, 3, none⟩ (.int .i64 G)) := by
  obtain ⟨c0, c1, c2, c3⟩ := h.at_
  have f0 := h.free 0
  have f1 := h.free 1
  have f2 := h.free 2
  have f3 := h.free 3
  go_simp
/-- Operation number 6 turns block g alone; all others nothing that was there. -/
def Six (g : Nat) (j : Nat) (x y : World) : Prop := (j = 6 → x.grownBy y (some g) ∧ ∃ K A S G, Row4 y g K A S G) ∧ (j ≠ 6 → Later x y)
theorem six_later {g j : Nat} {x y : World} (hj : j ≠ 6) (h : Later x y) : Six g j x y := ⟨fun e => absurd e hj, fun _ => h⟩
theorem later_grown {x y : World} (row : Option Nat) (h : Later x y) : x.grownBy y row := ⟨h.os, h.tape, h.output, h.size, fun k hk _ => h.block k hk⟩
theorem six_grown {g j : Nat} {x y : World} (h : Six g j x y) : x.grownBy y (some g) := by
  by_cases hj : j = 6
  · exact (h.1 hj).1
  · exact later_grown _ (h.2 hj)
def SixI (w0 : World) (g : Nat) (w : World) : Prop := w0.grownBy w (some g) ∧ ∃ K A S G, Row4 w g K A S G
theorem six_inv {g j : Nat} {w0 x y : World} (h : SixI w0 g x) (k : Six g j x y) : SixI w0 g y := by
  refine ⟨grownBy_trans h.1 (six_grown k), ?_⟩
  by_cases hj : j = 6
  · exact (k.1 hj).2
  · obtain ⟨K, A, S, G, hr⟩ := h.2
    exact ⟨K, A, S, G, hr.since (k.2 hj)⟩
theorem sixI_bytes {w0 w W : World} {A : Option Addr} {n : Nat} {bs : List Nat} (hA : Bytes w0 w0.heap.size A n bs) (hb : Below w0.heap.size w0 w) (h : SixI w w0.heap.size W) : Bytes W W.heap.size A n bs := by
  have h1 := hb.grown h.1 hb.size (fun q hq => by rw [← Option.some.inj hq]; exact Nat.le_refl _)
  exact hA.since h1
/-- What the eight operations of 'a list's beginning, copied; a head; how it stands' leave. -/
def F8 (base g : Nat) (A : Option Addr) (n c N : Nat) (ds : List Nat) (K A' S G : Int) (i : Nat) (v : Value) (w : World) : Prop := match i with
  | 0 => v = .slice A n c
  | 1 => v = .int .i64 (N : Int)
  | 2 => v = .slice A N c
  | 3 => ∃ B m, v = .slice B N m ∧ Own w base B N m ds
  | 4 => v = .agg #[.int .i64 K, .int .u64 A', .int .i64 S, .int .i64 G]
  | 5 => ∃ B m, v = .slice B N m ∧ Own w base B N m ds
  | 6 => Row4 w g K A' S G
  | 7 => v = .int .i64 1
  | _ => True
theorem f8_stays {base g : Nat} (hg : g < base) {A : Option Addr} {n c N : Nat} {ds : List Nat} {K A' S G : Int} {i j : Nat} {v : Value} {w w' : World} (hij : i ≠ j) (h : F8 base g A n c N ds K A' S G i v w) (hR : Six g j w w') : F8 base g A n c N ds K A' S G i v w' := by
  have own : (∃ B m, v = .slice B N m ∧ Own w base B N m ds) → ∃ B m, v = .slice B N m ∧ Own w' base B N m ds := fun ⟨B, m, e, ho⟩ => ⟨B, m, e, ho.kept (six_grown hR) (fun b hb => by rw [← Option.some.inj hb]; exact hg)⟩
  match i with
  | 0 => exact h
  | 1 => exact h
  | 2 => exact h
  | 3 => exact own h
  | 4 => exact h
  | 5 => exact own h
  | 6 => exact Row4.since h (hR.2 (fun e => hij e.symm))
  | 7 => exact h
  | _ + 8 => trivial
theorem lay_any (A : Option Addr) (n c : Nat) (bs : List Nat) (K A' S G : Int) (w : World) (hT : Tabs w) (hW : Wid w) (hn : n ≤ 900) (hA : Bytes w w.heap.size A n bs) (a0 : 0 ≤ A') (a1 : A' ≤ 18446744073709551615) :
    Calls Tryd.prog 10 #[.slice A n c, .agg #[.int .i64 K, .int .u64 A', .int .i64 S, .int .i64 G]] w fun e w' => ∃ v, e = .returned v ∧ OutT OutE w.heap.size (layO bs K A' S G) v w' ∧ Hid (Below w.heap.size w w') := by
  by_cases h : dataB (bs.length : Int) = true ∧ mayB K A' S G = true
  · rw [layO_yes h.1 h.2]
    have b := mayB_out h.2
    have hd : 128 ≤ (n : Int) ∧ (n : Int) ≤ 256 := by have := of_decide_eq_true h.1; rwa [hA.len] at this
    refine (lay_yes A n c bs K A' S G (hN K A' S G) w hT hW (by omega) (by omega) hA h.2 (by show K = (K.toNat : Int); omega) (by show A' = (A'.toNat : Int); omega) (by show S = (S.toNat : Int); omega) (by show G = (G.toNat : Int); omega) ⟨a0, a1⟩).mono ?_
    rintro e w' ⟨B, m, c', rfl, ho, hb⟩
    exact ⟨_, rfl, ⟨_, _, rfl, ⟨_, _, _, rfl, ho.out⟩, rfl⟩, hb⟩
  · rw [layO_no h]
    rw [hA.len] at h
    refine (lay_no A n c K A' S G w (by omega) h).mono ?_
    rintro e w' ⟨x, rfl, hb, hw⟩
    exact ⟨_, rfl, ⟨_, _, rfl, rfl, hb.out⟩, hw⟩
end Go.Proofs.YticjdjffmagdkaaDoor
