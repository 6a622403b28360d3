/- The contract of head.headOf. Conditions: what the list of widths holds; the slice's cells. -/
import Derived.Test.YticjdjffmagdkaaDoorHeadLay
import Derived.Test.YticjdjffmagdkaaDoorPackUnfix
set_option linter.unusedVariables false
set_option linter.unusedSimpArgs false
namespace Go.Proofs.YticjdjffmagdkaaDoor
open Go.RowKit

/-- Five numbers, a row of the call's own. -/
structure Row5 (w : World) (g : Nat) (a b c d e : Int) : Prop where
  row : w.heap[g]? = some (.cells #[.int .u64 a, .int .u64 b, .int .u64 c, .int .u64 d, .int .u64 e] 54 (0, 0))
theorem Row5.lt {w : World} {g : Nat} {a b c d e : Int} (h : Row5 w g a b c d e) : g < w.heap.size := (Array.getElem?_eq_some_iff.1 h.row).1
theorem Row5.nums {w : World} {g : Nat} {a b c d e : Int} (h : Row5 w g a b c d e) : Nums w g a b c d e :=
  ⟨by rw [cell_of_row _ _ _ _ _ _ h.row]; rfl, by rw [cell_of_row _ _ _ _ _ _ h.row]; rfl, by rw [cell_of_row _ _ _ _ _ _ h.row]; rfl, by rw [cell_of_row _ _ _ _ _ _ h.row]; rfl, by rw [cell_of_row _ _ _ _ _ _ h.row]; rfl⟩
theorem Row5.free {w : World} {g : Nat} {a b c d e : Int} (h : Row5 w g a b c d e) (k : Nat) : w.frozen? ⟨g, k, none⟩ = false := by simp [World.frozen?, h.row]
theorem Row5.since {w w' : World} {g : Nat} {a b c d e : Int} (h : Row5 w g a b c d e) (hb : Below w.heap.size w w') : Row5 w' g a b c d e := ⟨(hb.block g h.lt).trans h.row⟩
theorem row5_new (W : World) (a b c d e : Int) : Row5 (W.alloc (.cells #[.int .u64 a, .int .u64 b, .int .u64 c, .int .u64 d, .int .u64 e] 54)) W.heap.size a b c d e := ⟨heap_alloc_new W _⟩
theorem Row5.s0 {w : World} {g : Nat} {a b c d e : Int} (h : Row5 w g a b c d e) (y : Int) : Row5 (w.setCell ⟨g, 0, none⟩ (.int .u64 y)) g y b c d e := ⟨by simp [World.setCell, Array.getElem?_modify, h.row]⟩
theorem Row5.s1 {w : World} {g : Nat} {a b c d e : Int} (h : Row5 w g a b c d e) (y : Int) : Row5 (w.setCell ⟨g, 1, none⟩ (.int .u64 y)) g a y c d e := ⟨by simp [World.setCell, Array.getElem?_modify, h.row]⟩
theorem Row5.s2 {w : World} {g : Nat} {a b c d e : Int} (h : Row5 w g a b c d e) (y : Int) : Row5 (w.setCell ⟨g, 2, none⟩ (.int .u64 y)) g a b y d e := ⟨by simp [World.setCell, Array.getElem?_modify, h.row]⟩
theorem Row5.s3 {w : World} {g : Nat} {a b c d e : Int} (h : Row5 w g a b c d e) (y : Int) : Row5 (w.setCell ⟨g, 3, none⟩ (.int .u64 y)) g a b c y e := ⟨by simp [World.setCell, Array.getElem?_modify, h.row]⟩
theorem Row5.s4 {w : World} {g : Nat} {a b c d e : Int} (h : Row5 w g a b c d e) (y : Int) : Row5 (w.setCell ⟨g, 4, none⟩ (.int .u64 y)) g a b c d y := ⟨by simp [World.setCell, Array.getElem?_modify, h.row]⟩
/-- A head, a row of the call's own. -/
structure Row4 (w : World) (g : Nat) (K A S G : Int) : Prop where
  row : w.heap[g]? = some (.cells #[.int .i64 K, .int .u64 A, .int .i64 S, .int .i64 G] 25 (0, 0))
theorem Row4.lt {w : World} {g : Nat} {K A S G : Int} (h : Row4 w g K A S G) : g < w.heap.size := (Array.getElem?_eq_some_iff.1 h.row).1
theorem Row4.at_ {w : World} {g : Nat} {K A S G : Int} (h : Row4 w g K A S G) : HeadAt w g K A S G :=
  ⟨by rw [cell_of_row _ _ _ _ _ _ h.row]; rfl, by rw [cell_of_row _ _ _ _ _ _ h.row]; rfl, by rw [cell_of_row _ _ _ _ _ _ h.row]; rfl, by rw [cell_of_row _ _ _ _ _ _ h.row]; rfl⟩
theorem Row4.free {w : World} {g : Nat} {K A S G : Int} (h : Row4 w g K A S G) (k : Nat) : w.frozen? ⟨g, k, none⟩ = false := by simp [World.frozen?, h.row]
theorem Row4.since {w w' : World} {g : Nat} {K A S G : Int} (h : Row4 w g K A S G) (hb : Below w.heap.size w w') : Row4 w' g K A S G := ⟨(hb.block g h.lt).trans h.row⟩
theorem row4_new (W : World) (K A S G : Int) : Row4 (W.alloc (.cells #[.int .i64 K, .int .u64 A, .int .i64 S, .int .i64 G] 25)) W.heap.size K A S G := ⟨heap_alloc_new W _⟩
theorem Row4.else_ {w w' : World} {g b : Nat} {K A S G : Int} (h : Row4 w g K A S G) (hg : w.grownBy w' (some b)) (hn : g ≠ b) : Row4 w' g K A S G := ⟨(hg.block g h.lt (fun e => hn (Option.some.inj e))).trans h.row⟩
theorem setCell_else (w : World) (p : Addr) (v : Value) : w.grownBy (w.setCell p v) (some p.block) :=
  ⟨rfl, rfl, rfl, by simp, fun k hk hn => by simp only [World.setCell]; rw [Array.getElem?_modify]; rw [if_neg (fun e => hn (by rw [e]))]⟩
theorem Row4.put {w : World} {g : Nat} {K A S G : Int} (h : Row4 w g K A S G) (K' A' S' G' : Int) : Row4 ((((w.setCell ⟨g, 0, none⟩ (.int .i64 K')).setCell ⟨g, 1, none⟩ (.int .u64 A')).setCell ⟨g, 2, none⟩ (.int .i64 S')).setCell ⟨g, 3, none⟩ (.int .i64 G')) g K' A' S' G' := ⟨by simp [World.setCell, Array.getElem?_modify, h.row]⟩
theorem put_else (w : World) (g : Nat) (a b c d : Value) : w.grownBy ((((w.setCell ⟨g, 0, none⟩ a).setCell ⟨g, 1, none⟩ b).setCell ⟨g, 2, none⟩ c).setCell ⟨g, 3, none⟩ d) (some g) :=
  grownBy_trans (grownBy_trans (grownBy_trans (setCell_else w ⟨g, 0, none⟩ a) (setCell_else _ ⟨g, 1, none⟩ b)) (setCell_else _ ⟨g, 2, none⟩ c)) (setCell_else _ ⟨g, 3, none⟩ d)
/-- What headOf leaves. -/
def Heads (w : World) (h : Hd.H) (e : Ending) (w' : World) : Prop := ∃ K A S G : Int, e = .returned (.agg #[.int .i64 K, .int .u64 A, .int .i64 S, .int .i64 G]) ∧ Hid (K = (h.k : Int)) ∧ Hid (A = (h.a : Int)) ∧ Hid (S = (h.s : Int)) ∧ Hid (G = (h.g : Int)) ∧
  0 ≤ K ∧ K ≤ 255 ∧ 0 ≤ A ∧ A ≤ 18446744073709551615 ∧ 0 ≤ S ∧ S ≤ 1099511627775 ∧ 0 ≤ G ∧ G ≤ 16777215 ∧ Hid (Below w.heap.size w w')
theorem unfix_at (A : Option Addr) (n c k : Nat) (m : Int) (bs : List Nat) (w : World) (hn : n ≤ 900) (hc : n ≤ c) (hm : m = (k : Int)) (hk : k ≤ 8) (hkn : k ≤ n) (hA : Bytes w w.heap.size A n bs) :
    Calls Tryd.prog 38 #[.slice A n c, .int .i64 m] w fun e w' => ∃ (y : Int) (A' : Option Addr) (c' : Nat), e = .returned (.tuple #[.int .u64 y, .slice A' (n - k) c', .bool true]) ∧ Hid (y = ((Pk.unfix (bs.take k) : Nat) : Int)) ∧ 0 ≤ y ∧ y ≤ 18446744073709551615 ∧
      Hid (Own w' w.heap.size A' (n - k) c' (bs.drop k)) ∧ Hid (Below w.heap.size w w') := by
  subst hm
  refine (unfix_any A n c (k : Int) bs w hn hc hA).mono ?_
  rw [unfixO_yes hk hkn]
  rintro e w' ⟨y, A', n', c', rfl, hy, h0, h1, hn', ho, hb⟩
  obtain rfl : n - k = n' := by rw [← ho.out.len, List.length_drop, hA.len]
  exact ⟨y, A', c', rfl, hy, h0, h1, ho, hb⟩
set_option maxHeartbeats 8000000 in
theorem headof_any (A : Option Addr) (c : Nat) (t : List Nat) (w : World) (hW : Wid w) (hc : 28 ≤ c) (hA : Bytes w w.heap.size A 28 t) :
    Calls Tryd.prog 29 #[.slice A 28 c] w (Heads w (Hd.headOf t)) := by
  have S0 := Lib.hid (since_alloc (Below.refl w.heap.size w) (.cells #[.int .i64 0, .int .u64 0, .int .i64 0, .int .i64 0] 25))
  have R40 := Lib.hid (row4_new w 0 0 0 0)
  obtain ⟨W0, HW0⟩ : ∃ W0, Hid (W0 = w.alloc (.cells #[.int .i64 0, .int .u64 0, .int .i64 0, .int .i64 0] 25)) := ⟨_, rfl⟩
  have S1 := Lib.hid (since_alloc S0.out (.cells #[.int .u64 0, .int .u64 0, .int .u64 0, .int .u64 0, .int .u64 0] 54))
  have HA1 := Lib.hid (hA.since S1.out)
  have HT := Lib.hid hA.lt256
  obtain ⟨w0, w1, w2, w3, w4⟩ := hW.since S1.out
  have R51 := Lib.hid (row5_new (w.alloc (.cells #[.int .i64 0, .int .u64 0, .int .i64 0, .int .i64 0] 25)) 0 0 0 0 0)
  have R41 := Lib.hid (R40.out.since (later_alloc _ (.cells #[.int .u64 0, .int .u64 0, .int .u64 0, .int .u64 0, .int .u64 0] 54)))
  clear hW hA S0 R40
  go_enter Tryd.func29, Tryd.ntmps29
  go_wp2_with fail
  have R5a : Hid (Row5 ((w.alloc (.cells #[.int .i64 0, .int .u64 0, .int .i64 0, .int .i64 0] 25)).alloc (.cells #[.int .u64 0, .int .u64 0, .int .u64 0, .int .u64 0, .int .u64 0] 54)) (w.heap.size + 1) 0 0 0 0 0) := by
    have e : (w.alloc (.cells #[.int .i64 0, .int .u64 0, .int .i64 0, .int .i64 0] 25)).heap.size = w.heap.size + 1 := by simp
    rw [← e]; exact R51
  obtain ⟨v0, V0⟩ : ∃ v, Hid (v = Hd.part t 0) := ⟨_, rfl⟩
  obtain ⟨v1, V1⟩ : ∃ v, Hid (v = Hd.part t 1) := ⟨_, rfl⟩
  obtain ⟨v2, V2⟩ : ∃ v, Hid (v = Hd.part t 2) := ⟨_, rfl⟩
  obtain ⟨v3, V3⟩ : ∃ v, Hid (v = Hd.part t 3) := ⟨_, rfl⟩
  have L0 : Hid (v0 < 256) := by rw [V0.out]; exact Hd.part_lt HT.out 0
  have L2 : Hid (v2 < 1099511627776) := by rw [V2.out]; exact Hd.part_lt HT.out 2
  have L3 : Hid (v3 < 16777216) := by rw [V3.out]; exact Hd.part_lt HT.out 3
  clear R51 w0 w1 w2 w3 w4 HW0
  go_loopw [0, 4, 5, 7] (fun t0 t4 t5 t7 wr => ∃ (k : Nat) (x : Int) (B : Option Addr) (m c' : Nat) (y0 y1 y2 y3 y4 : Int), t7 = .int .i64 x ∧ t0 = .slice B m c' ∧ Hid (m + Hd.off k = 28 ∧ m ≤ c') ∧ Hid (Bytes wr wr.heap.size B m (Hd.rest t k)) ∧
    Hid (Row5 wr (w.heap.size + 1) y0 y1 y2 y3 y4) ∧ Hid (Row4 wr w.heap.size 0 0 0 0) ∧ Hid (Below w.heap.size w wr) ∧ Hid ((1 ≤ k → y0 = (v0 : Int)) ∧ (2 ≤ k → y1 = (v1 : Int) ∧ 0 ≤ y1 ∧ y1 ≤ 18446744073709551615) ∧ (3 ≤ k → y2 = (v2 : Int)) ∧ (4 ≤ k → y3 = (v3 : Int))) ∧
    ((k = 0 ∧ x = 0) ∨ (k = 1 ∧ x = 1) ∨ (k = 2 ∧ x = 2) ∨ (k = 3 ∧ x = 3) ∨ (k = 4 ∧ x = 4) ∨ (k = 5 ∧ x = 5))) (fun _ _ _ t7 _ => 5 - (intOf t7).toNat)
  case atStart => exact ⟨0, 0, A, 28, c, 0, 0, 0, 0, 0, rfl, rfl, ⟨rfl, hc⟩, HA1, R5a, R41, S1, ⟨fun h => by omega, fun h => by omega, fun h => by omega, fun h => by omega⟩, Or.inl ⟨rfl, rfl⟩⟩
  case round =>
    obtain ⟨k, x, B, m, c', y0, y1, y2, y3, y4, rfl, rfl, HM3, HBY, HR5, HR4, HB, HV, hk⟩ := hrel
    obtain ⟨x0, x1, x2, x3, x4⟩ := run_index5 (.int .i64 1) (.int .i64 8) (.int .i64 5) (.int .i64 3) (.int .i64 6) wr
    rcases hk with ⟨rfl, rfl⟩ | ⟨rfl, rfl⟩ | ⟨rfl, rfl⟩ | ⟨rfl, rfl⟩ | ⟨rfl, rfl⟩ | ⟨rfl, rfl⟩
    · go_wp2_with fail
      refine (unfix_at B m c' (Hd.wid 0) 1 (Hd.rest t 0) _ (by have := HM3.out.1; omega) HM3.out.2 rfl (wid_le 0) (by have h1 := HM3.out.1; have h2 : Hd.off 0 + Hd.wid 0 ≤ 28 := (by decide); omega) HBY.out).mono ?_
      rintro e W6 ⟨z, A6, c6, rfl, HY6, hz0, hz1, HO6, HB6⟩
      have R6 := Lib.hid (HR5.out.since HB6.out)
      have n0 := R6.out.nums.c0
      have f0 := R6.out.free 0
      have B7 := Lib.hid ((below_chain HB.out HB6.out).setCell (p := ⟨w.heap.size + 1, 0, none⟩) (by simp) (.int .u64 z))
      have R7 := Lib.hid (R6.out.s0 z)
      have Q7 := Lib.hid ((HR4.out.since HB6.out).else_ (setCell_else W6 ⟨w.heap.size + 1, 0, none⟩ (.int .u64 z)) (by simp))
      have P7 : Hid (Bytes (W6.setCell ⟨w.heap.size + 1, 0, none⟩ (.int .u64 z)) (W6.setCell ⟨w.heap.size + 1, 0, none⟩ (.int .u64 z)).heap.size A6 (m - Hd.wid 0) (Hd.rest t 1)) :=
        (HO6.out.kept (setCell_else W6 ⟨w.heap.size + 1, 0, none⟩ (.int .u64 z)) (fun b hb => by have := HR5.out.lt; simp at hb; omega)).bytes
      have M7 : Hid (m - Hd.wid 0 + Hd.off 1 = 28 ∧ m - Hd.wid 0 ≤ c6) := ⟨by have h1 := HM3.out.1; have h2 : Hd.off 0 + Hd.wid 0 ≤ 28 := (by decide); show m - Hd.wid 0 + (Hd.off 0 + Hd.wid 0) = 28; omega, HO6.out.cap⟩
      have V7 : Hid ((1 ≤ 1 → z = (v0 : Int)) ∧ (2 ≤ 1 → y1 = (v1 : Int) ∧ 0 ≤ y1 ∧ y1 ≤ 18446744073709551615) ∧ (3 ≤ 1 → y2 = (v2 : Int)) ∧ (4 ≤ 1 → y3 = (v3 : Int))) := ⟨fun _ => by rw [V0.out]; exact HY6.out, fun h => by omega, fun h => by omega, fun h => by omega⟩
      clear x0 x1 x2 x3 x4
      go_wp2_with fail
      go_roundw
      case rel => exact ⟨1, 1, _, _, _, z, y1, y2, y3, y4, rfl, rfl, M7, P7, R7, Q7, B7, V7, by omega⟩
      case measure => simp [intOf]
    · go_wp2_with fail
      refine (unfix_at B m c' (Hd.wid 1) 8 (Hd.rest t 1) _ (by have := HM3.out.1; omega) HM3.out.2 rfl (wid_le 1) (by have h1 := HM3.out.1; have h2 : Hd.off 1 + Hd.wid 1 ≤ 28 := (by decide); omega) HBY.out).mono ?_
      rintro e W6 ⟨z, A6, c6, rfl, HY6, hz0, hz1, HO6, HB6⟩
      have R6 := Lib.hid (HR5.out.since HB6.out)
      have n1 := R6.out.nums.c1
      have f1 := R6.out.free 1
      have B7 := Lib.hid ((below_chain HB.out HB6.out).setCell (p := ⟨w.heap.size + 1, 1, none⟩) (by simp) (.int .u64 z))
      have R7 := Lib.hid (R6.out.s1 z)
      have Q7 := Lib.hid ((HR4.out.since HB6.out).else_ (setCell_else W6 ⟨w.heap.size + 1, 1, none⟩ (.int .u64 z)) (by simp))
      have P7 : Hid (Bytes (W6.setCell ⟨w.heap.size + 1, 1, none⟩ (.int .u64 z)) (W6.setCell ⟨w.heap.size + 1, 1, none⟩ (.int .u64 z)).heap.size A6 (m - Hd.wid 1) (Hd.rest t 2)) :=
        (HO6.out.kept (setCell_else W6 ⟨w.heap.size + 1, 1, none⟩ (.int .u64 z)) (fun b hb => by have := HR5.out.lt; simp at hb; omega)).bytes
      have M7 : Hid (m - Hd.wid 1 + Hd.off 2 = 28 ∧ m - Hd.wid 1 ≤ c6) := ⟨by have h1 := HM3.out.1; have h2 : Hd.off 1 + Hd.wid 1 ≤ 28 := (by decide); show m - Hd.wid 1 + (Hd.off 1 + Hd.wid 1) = 28; omega, HO6.out.cap⟩
      have V7 : Hid ((1 ≤ 2 → y0 = (v0 : Int)) ∧ (2 ≤ 2 → z = (v1 : Int) ∧ 0 ≤ z ∧ z ≤ 18446744073709551615) ∧ (3 ≤ 2 → y2 = (v2 : Int)) ∧ (4 ≤ 2 → y3 = (v3 : Int))) := ⟨fun _ => HV.out.1 (by omega), fun _ => ⟨by rw [V1.out]; exact HY6.out, hz0, hz1⟩, fun h => by omega, fun h => by omega⟩
      clear x0 x1 x2 x3 x4
      go_wp2_with fail
      go_roundw
      case rel => exact ⟨2, 2, _, _, _, y0, z, y2, y3, y4, rfl, rfl, M7, P7, R7, Q7, B7, V7, by omega⟩
      case measure => simp [intOf]
    · go_wp2_with fail
      refine (unfix_at B m c' (Hd.wid 2) 5 (Hd.rest t 2) _ (by have := HM3.out.1; omega) HM3.out.2 rfl (wid_le 2) (by have h1 := HM3.out.1; have h2 : Hd.off 2 + Hd.wid 2 ≤ 28 := (by decide); omega) HBY.out).mono ?_
      rintro e W6 ⟨z, A6, c6, rfl, HY6, hz0, hz1, HO6, HB6⟩
      have R6 := Lib.hid (HR5.out.since HB6.out)
      have n2 := R6.out.nums.c2
      have f2 := R6.out.free 2
      have B7 := Lib.hid ((below_chain HB.out HB6.out).setCell (p := ⟨w.heap.size + 1, 2, none⟩) (by simp) (.int .u64 z))
      have R7 := Lib.hid (R6.out.s2 z)
      have Q7 := Lib.hid ((HR4.out.since HB6.out).else_ (setCell_else W6 ⟨w.heap.size + 1, 2, none⟩ (.int .u64 z)) (by simp))
      have P7 : Hid (Bytes (W6.setCell ⟨w.heap.size + 1, 2, none⟩ (.int .u64 z)) (W6.setCell ⟨w.heap.size + 1, 2, none⟩ (.int .u64 z)).heap.size A6 (m - Hd.wid 2) (Hd.rest t 3)) :=
        (HO6.out.kept (setCell_else W6 ⟨w.heap.size + 1, 2, none⟩ (.int .u64 z)) (fun b hb => by have := HR5.out.lt; simp at hb; omega)).bytes
      have M7 : Hid (m - Hd.wid 2 + Hd.off 3 = 28 ∧ m - Hd.wid 2 ≤ c6) := ⟨by have h1 := HM3.out.1; have h2 : Hd.off 2 + Hd.wid 2 ≤ 28 := (by decide); show m - Hd.wid 2 + (Hd.off 2 + Hd.wid 2) = 28; omega, HO6.out.cap⟩
      have V7 : Hid ((1 ≤ 3 → y0 = (v0 : Int)) ∧ (2 ≤ 3 → y1 = (v1 : Int) ∧ 0 ≤ y1 ∧ y1 ≤ 18446744073709551615) ∧ (3 ≤ 3 → z = (v2 : Int)) ∧ (4 ≤ 3 → y3 = (v3 : Int))) := ⟨fun _ => HV.out.1 (by omega), fun _ => HV.out.2.1 (by omega), fun _ => by rw [V2.out]; exact HY6.out, fun h => by omega⟩
      clear x0 x1 x2 x3 x4
      go_wp2_with fail
      go_roundw
      case rel => exact ⟨3, 3, _, _, _, y0, y1, z, y3, y4, rfl, rfl, M7, P7, R7, Q7, B7, V7, by omega⟩
      case measure => simp [intOf]
    · go_wp2_with fail
      refine (unfix_at B m c' (Hd.wid 3) 3 (Hd.rest t 3) _ (by have := HM3.out.1; omega) HM3.out.2 rfl (wid_le 3) (by have h1 := HM3.out.1; have h2 : Hd.off 3 + Hd.wid 3 ≤ 28 := (by decide); omega) HBY.out).mono ?_
      rintro e W6 ⟨z, A6, c6, rfl, HY6, hz0, hz1, HO6, HB6⟩
      have R6 := Lib.hid (HR5.out.since HB6.out)
      have n3 := R6.out.nums.c3
      have f3 := R6.out.free 3
      have B7 := Lib.hid ((below_chain HB.out HB6.out).setCell (p := ⟨w.heap.size + 1, 3, none⟩) (by simp) (.int .u64 z))
      have R7 := Lib.hid (R6.out.s3 z)
      have Q7 := Lib.hid ((HR4.out.since HB6.out).else_ (setCell_else W6 ⟨w.heap.size + 1, 3, none⟩ (.int .u64 z)) (by simp))
      have P7 : Hid (Bytes (W6.setCell ⟨w.heap.size + 1, 3, none⟩ (.int .u64 z)) (W6.setCell ⟨w.heap.size + 1, 3, none⟩ (.int .u64 z)).heap.size A6 (m - Hd.wid 3) (Hd.rest t 4)) :=
        (HO6.out.kept (setCell_else W6 ⟨w.heap.size + 1, 3, none⟩ (.int .u64 z)) (fun b hb => by have := HR5.out.lt; simp at hb; omega)).bytes
      have M7 : Hid (m - Hd.wid 3 + Hd.off 4 = 28 ∧ m - Hd.wid 3 ≤ c6) := ⟨by have h1 := HM3.out.1; have h2 : Hd.off 3 + Hd.wid 3 ≤ 28 := (by decide); show m - Hd.wid 3 + (Hd.off 3 + Hd.wid 3) = 28; omega, HO6.out.cap⟩
      have V7 : Hid ((1 ≤ 4 → y0 = (v0 : Int)) ∧ (2 ≤ 4 → y1 = (v1 : Int) ∧ 0 ≤ y1 ∧ y1 ≤ 18446744073709551615) ∧ (3 ≤ 4 → y2 = (v2 : Int)) ∧ (4 ≤ 4 → z = (v3 : Int))) := ⟨fun _ => HV.out.1 (by omega), fun _ => HV.out.2.1 (by omega), fun _ => HV.out.2.2.1 (by omega), fun _ => by rw [V3.out]; exact HY6.out⟩
      clear x0 x1 x2 x3 x4
      go_wp2_with fail
      go_roundw
      case rel => exact ⟨4, 4, _, _, _, y0, y1, y2, z, y4, rfl, rfl, M7, P7, R7, Q7, B7, V7, by omega⟩
      case measure => simp [intOf]
    · go_wp2_with fail
      refine (unfix_at B m c' (Hd.wid 4) 6 (Hd.rest t 4) _ (by have := HM3.out.1; omega) HM3.out.2 rfl (wid_le 4) (by have h1 := HM3.out.1; have h2 : Hd.off 4 + Hd.wid 4 ≤ 28 := (by decide); omega) HBY.out).mono ?_
      rintro e W6 ⟨z, A6, c6, rfl, HY6, hz0, hz1, HO6, HB6⟩
      have R6 := Lib.hid (HR5.out.since HB6.out)
      have n4 := R6.out.nums.c4
      have f4 := R6.out.free 4
      have B7 := Lib.hid ((below_chain HB.out HB6.out).setCell (p := ⟨w.heap.size + 1, 4, none⟩) (by simp) (.int .u64 z))
      have R7 := Lib.hid (R6.out.s4 z)
      have Q7 := Lib.hid ((HR4.out.since HB6.out).else_ (setCell_else W6 ⟨w.heap.size + 1, 4, none⟩ (.int .u64 z)) (by simp))
      have P7 : Hid (Bytes (W6.setCell ⟨w.heap.size + 1, 4, none⟩ (.int .u64 z)) (W6.setCell ⟨w.heap.size + 1, 4, none⟩ (.int .u64 z)).heap.size A6 (m - Hd.wid 4) (Hd.rest t 5)) :=
        (HO6.out.kept (setCell_else W6 ⟨w.heap.size + 1, 4, none⟩ (.int .u64 z)) (fun b hb => by have := HR5.out.lt; simp at hb; omega)).bytes
      have M7 : Hid (m - Hd.wid 4 + Hd.off 5 = 28 ∧ m - Hd.wid 4 ≤ c6) := ⟨by have h1 := HM3.out.1; have h2 : Hd.off 4 + Hd.wid 4 ≤ 28 := (by decide); show m - Hd.wid 4 + (Hd.off 4 + Hd.wid 4) = 28; omega, HO6.out.cap⟩
      have V7 : Hid ((1 ≤ 5 → y0 = (v0 : Int)) ∧ (2 ≤ 5 → y1 = (v1 : Int) ∧ 0 ≤ y1 ∧ y1 ≤ 18446744073709551615) ∧ (3 ≤ 5 → y2 = (v2 : Int)) ∧ (4 ≤ 5 → y3 = (v3 : Int))) := ⟨fun _ => HV.out.1 (by omega), fun _ => HV.out.2.1 (by omega), fun _ => HV.out.2.2.1 (by omega), fun _ => HV.out.2.2.2 (by omega)⟩
      clear x0 x1 x2 x3 x4
      go_wp2_with fail
      go_roundw
      case rel => exact ⟨5, 5, _, _, _, y0, y1, y2, y3, z, rfl, rfl, M7, P7, R7, Q7, B7, V7, by omega⟩
      case measure => simp [intOf]
    · obtain ⟨n0, n1, n2, n3, n4⟩ := HR5.out.nums
      obtain ⟨q0, q1, q2, q3⟩ := HR4.out.at_
      have f0 := HR4.out.free 0
      have f1 := HR4.out.free 1
      have f2 := HR4.out.free 2
      have f3 := HR4.out.free 3
      have E0 : Hid (y0 = ((Hd.headOf t).k : Int)) := by rw [Hd.headOf_parts, ← V0.out]; exact HV.out.1 (by omega)
      have E1 : Hid (y1 = ((Hd.headOf t).a : Int)) := by rw [Hd.headOf_parts, ← V1.out]; exact (HV.out.2.1 (by omega)).1
      have E2 : Hid (y2 = ((Hd.headOf t).s : Int)) := by rw [Hd.headOf_parts, ← V2.out]; exact HV.out.2.2.1 (by omega)
      have E3 : Hid (y3 = ((Hd.headOf t).g : Int)) := by rw [Hd.headOf_parts, ← V3.out]; exact HV.out.2.2.2 (by omega)
      have b0 : 0 ≤ y0 ∧ y0 ≤ 255 := by have := HV.out.1 (by omega); have := L0.out; omega
      have b1 := (HV.out.2.1 (by omega)).2
      have b2 : 0 ≤ y2 ∧ y2 ≤ 1099511627775 := by have := HV.out.2.2.1 (by omega); have := L2.out; omega
      have b3 : 0 ≤ y3 ∧ y3 ≤ 16777215 := by have := HV.out.2.2.2 (by omega); have := L3.out; omega
      obtain ⟨b00, b01⟩ := b0
      obtain ⟨b10, b11⟩ := b1
      obtain ⟨b20, b21⟩ := b2
      obtain ⟨b30, b31⟩ := b3
      clear x0 x1 x2 x3 x4 HV
      go_wp2_with fail
      have S9 := Lib.hid (HB.out.grown (put_else wr w.heap.size (.int .i64 y0) (.int .u64 y1) (.int .i64 y2) (.int .i64 y3)) HB.out.size (fun q hq => by rw [← Option.some.inj hq]; exact Nat.le_refl _))
      have R9 := Lib.hid (HR4.out.put y0 y1 y2 y3)
      obtain ⟨W9, HW9⟩ : ∃ W9, Hid (W9 = ((((wr.setCell ⟨w.heap.size, 0, none⟩ (.int .i64 y0)).setCell ⟨w.heap.size, 1, none⟩ (.int .u64 y1)).setCell ⟨w.heap.size, 2, none⟩ (.int .i64 y2)).setCell ⟨w.heap.size, 3, none⟩ (.int .i64 y3))) := ⟨_, rfl⟩
      rw [← HW9.out] at S9 R9 ⊢
      obtain ⟨r0, r1, r2, r3⟩ := R9.out.at_
      exact bodyPost_ret (v := .agg #[.int .i64 y0, .int .u64 y1, .int .i64 y2, .int .i64 y3]) (by simp [results, Tryd.results29, go_sem, r0, r1, r2, r3]) rfl ⟨y0, y1, y2, y3, rfl, E0, E1, E2, E3, b00, b01, b10, b11, b20, b21, b30, b31, S9⟩
end Go.Proofs.YticjdjffmagdkaaDoor
