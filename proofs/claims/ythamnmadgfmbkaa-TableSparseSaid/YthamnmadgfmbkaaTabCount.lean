/- The landed table: count. Conditions: the table's cells. -/
import Derived.Test.YthamnmadgfmbkaaTabClone
set_option linter.unusedVariables false
set_option linter.unusedSimpArgs false
namespace Go.Proofs.Ythamnmadgfmbkaa
open Go.RowKit

section
variable {w : World} {base g : Nat} {l : List E} {fp : Nat → Prop} {v : Value} {m d : Int}
set_option maxHeartbeats 4000000 in
theorem tcount_any (x : E) (t : Int) (t0 : -2 ≤ t) (t1 : t ≤ 2) (m0 : -1000 ≤ m) (m1 : m ≤ 1000) (d0 : -1000 ≤ d) (d1 : d ≤ 1000) (k : TCore w base fp g l v m d) :
    Calls Try.prog 28 #[.pointer (some ⟨g, 0, none⟩), entV x, .int .i64 t] w fun e w' => e = .returned (.tuple #[]) ∧ TCore w' base fp g l v (m + t) (d + if x.dirty = true then t else 0) ∧ Turn fp w w' := by
  obtain ⟨xa, xp, xd, xq⟩ := x
  obtain ⟨o, HO⟩ : ∃ o, Hid (Obj.cells #[.int .u64 xa, .int .i64 xp, .bool xd, .int .i64 xq] 32 = o) := ⟨_, rfl⟩
  obtain ⟨mt, HMT⟩ : ∃ q, Hid (m + t = q) := ⟨_, rfl⟩
  have hb0 : Below w.heap.size w (w.alloc o) := (Below.refl _ _).alloc (Nat.le_refl _) _
  have k1 := k.set1 mt
  have hb1 : Below (w.setCell ⟨g, 1, none⟩ (.int .i64 mt)).heap.size (w.setCell ⟨g, 1, none⟩ (.int .i64 mt)) ((w.setCell ⟨g, 1, none⟩ (.int .i64 mt)).alloc o) := (Below.refl _ _).alloc (Nat.le_refl _) _
  have K1 := Lib.hid (k1.since hb1)
  have HT1 : Hid (Turn fp w ((w.setCell ⟨g, 1, none⟩ (.int .i64 mt)).alloc o)) := (k.turn_set 1 _).trans (Turn.of_below (fp := fp) hb1) fun b hb => Or.inl hb
  have hgl := k.glt
  have c1 := (k.since hb0).c1
  have f1 := (k.since hb0).free 1
  have c2 := K1.out.c2
  have f2 := K1.out.free 2
  have z1 : m + t = mt := HMT.out
  obtain ⟨dt, HDT⟩ : ∃ q, Hid (d + t = q) := ⟨_, rfl⟩
  have z2 : d + t = dt := HDT.out
  have k2 := k1.set2 dt
  have hb2 : Below ((w.setCell ⟨g, 1, none⟩ (.int .i64 mt)).setCell ⟨g, 2, none⟩ (.int .i64 dt)).heap.size ((w.setCell ⟨g, 1, none⟩ (.int .i64 mt)).setCell ⟨g, 2, none⟩ (.int .i64 dt)) (((w.setCell ⟨g, 1, none⟩ (.int .i64 mt)).setCell ⟨g, 2, none⟩ (.int .i64 dt)).alloc o) := (Below.refl _ _).alloc (Nat.le_refl _) _
  have K2 := Lib.hid (k2.since hb2)
  have HT2 : Hid (Turn fp w (((w.setCell ⟨g, 1, none⟩ (.int .i64 mt)).setCell ⟨g, 2, none⟩ (.int .i64 dt)).alloc o)) := ((k.turn_set 1 _).trans (k1.turn_set 2 _) fun b hb => Or.inl hb).trans (Turn.of_below (fp := fp) hb2) fun b hb => Or.inl hb
  rw [z1]
  rw [← HO.out] at c1 f1 c2 f2 K1 HT1 K2 HT2
  clear k k1 k2 hb0 hb1 hb2 HO
  unfold entV
  dsimp only
  cases xd with
  | false =>
    go_enter Try.func28, Try.ntmps28
    go_wp2_with fail
    go_end0
    exact ⟨rfl, K1.out, HT1.out⟩
  | true =>
    go_enter Try.func28, Try.ntmps28
    go_wp2_with fail
    go_end0
    exact ⟨rfl, K2.out, HT2.out⟩
end
end Go.Proofs.Ythamnmadgfmbkaa
