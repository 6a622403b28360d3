/- The landed table: insert. Conditions: the table's cells; fewer than 120 entries. -/
import Derived.Test.YthamnmadgfmbkaaTabCount
set_option linter.unusedVariables false
set_option linter.unusedSimpArgs false
namespace Go.Proofs.Ythamnmadgfmbkaa
open Go.RowKit

/-- What a call leaves that turns the rows: the table stands again, in its blocks and in new ones. -/
def TTurns (w : World) (base : Nat) (fp : Nat → Prop) (g : Nat) (l : List E) (m d : Int) (e : Ending) (w' : World) : Prop :=
  e = .returned (.tuple #[]) ∧ ∃ v, TCore w' base (newer fp w w') g l v m d ∧ Moves w fp w' (newer fp w w')
section
variable {w : World} {base g : Nat} {l : List E} {fp : Nat → Prop} {v : Value} {m d : Int}
theorem heap_alloc_at {w : World} {o o' : Obj} {k : Nat} (h : w.heap[k]? = some o') : (w.alloc o).heap[k]? = some o' := by
  exact (heap_alloc_old w o (Array.getElem?_eq_some_iff.1 h).1).trans h
theorem TCore.made (k : TCore w base fp g [] v m d) (x : E) (hx : EWf x) (o1 o2 o3 o4 : Obj) (h3 : o3 = .cells #[.int .u64 x.addr, .int .i64 x.page, .bool x.dirty, .int .i64 x.seq] 32) (b : Nat) (hb : b = w.heap.size + 1 + 1) (h4 : o4 = .cells #[.slice (some ⟨b, 0, none⟩) 1 1] 27) :
    TTurns w base fp g [x] m d (.returned (.tuple #[])) (((((w.alloc o1).alloc o2).alloc o3).alloc o4).setCell ⟨g, 0, none⟩ (.slice (some ⟨b + 1, 0, none⟩) 1 1)) := by
  subst h3 h4
  have s2 : ((w.alloc o1).alloc o2).heap.size = b := by simp [hb]
  have h3 : (((w.alloc o1).alloc o2).alloc (.cells #[.int .u64 x.addr, .int .i64 x.page, .bool x.dirty, .int .i64 x.seq] 32)).heap[b]? = some (.cells #[.int .u64 x.addr, .int .i64 x.page, .bool x.dirty, .int .i64 x.seq] 32 (0, 0)) := by
    have := heap_alloc_new ((w.alloc o1).alloc o2) (.cells #[.int .u64 x.addr, .int .i64 x.page, .bool x.dirty, .int .i64 x.seq] 32)
    rwa [s2] at this
  have hb3 : Below w.heap.size w (((w.alloc o1).alloc o2).alloc (.cells #[.int .u64 x.addr, .int .i64 x.page, .bool x.dirty, .int .i64 x.seq] 32)) :=
    ((((Below.refl w.heap.size w).alloc (Nat.le_refl _) o1).alloc (by simp) o2).alloc (by simp; omega) _)
  have s3 : (((w.alloc o1).alloc o2).alloc (.cells #[.int .u64 x.addr, .int .i64 x.page, .bool x.dirty, .int .i64 x.seq] 32)).heap.size = b + 1 := by simp [hb]
  obtain ⟨W3, HW3⟩ : ∃ W3, W3 = ((w.alloc o1).alloc o2).alloc (.cells #[.int .u64 x.addr, .int .i64 x.page, .bool x.dirty, .int .i64 x.seq] 32) := ⟨_, rfl⟩
  rw [← HW3] at s3 h3 hb3 ⊢
  have h4 : (W3.alloc (.cells #[.slice (some ⟨b, 0, none⟩) 1 1] 27)).heap[b + 1]? = some (.cells #[.slice (some ⟨b, 0, none⟩) 1 1] 27 (0, 0)) := by
    have := heap_alloc_new W3 (.cells #[.slice (some ⟨b, 0, none⟩) 1 1] 27)
    rwa [s3] at this
  have hb4 : Below w.heap.size w (W3.alloc (.cells #[.slice (some ⟨b, 0, none⟩) 1 1] 27)) := hb3.alloc hb3.size _
  have h3' := heap_alloc_at (o := .cells #[.slice (some ⟨b, 0, none⟩) 1 1] 27) h3
  have hsz : (W3.alloc (.cells #[.slice (some ⟨b, 0, none⟩) 1 1] 27)).heap.size = b + 2 := by simp [s3]
  obtain ⟨W4, HW4⟩ : ∃ W4, W4 = W3.alloc (.cells #[.slice (some ⟨b, 0, none⟩) 1 1] 27) := ⟨_, rfl⟩
  rw [← HW4] at h4 hb4 h3' hsz ⊢
  have k4 := k.since hb4
  have hbb := k.base_le
  have hgl := k.glt
  have ht : Turn fp w (W4.setCell ⟨g, 0, none⟩ (.slice (some ⟨b + 1, 0, none⟩) 1 1)) := (Turn.of_below (fp := fp) hb4).trans (k4.turn_set 0 _) fun b hb => Or.inl hb
  have hsz' : (W4.setCell ⟨g, 0, none⟩ (.slice (some ⟨b + 1, 0, none⟩) 1 1)).heap.size = b + 2 := by rw [← hsz]; simp [World.setCell]
  refine ⟨rfl, _, k.fin ht (tab_set0 k4.tab _) (Or.inr ⟨Nat.zero_lt_one, b + 1, 1, b, 1, rfl, ?_, ?_, Or.inr ⟨by omega, by rw [hsz']; omega⟩, Or.inr ⟨by omega, by rw [hsz']; omega⟩⟩)⟩
  · exact Kind.Row.shut (K := esK) (cur := [.slice (some ⟨b, 0, none⟩) 1 1]) (by omega) ((setCell_heap _ _ _ _ _ (by omega)).trans h4) (Nat.le_refl _) (by unfold maxLen; decide) rfl rfl rfl fun u _ => trivial
  · exact Kind.Row.shut (K := entK) (cur := [.int .u64 x.addr, .int .i64 x.page, .bool x.dirty, .int .i64 x.seq]) (by omega) ((setCell_heap _ _ _ _ _ (by omega)).trans h3') (Nat.le_refl _) (by unfold maxLen; decide) rfl rfl rfl fun u hu => by rw [List.mem_singleton.1 hu]; exact hx
set_option maxHeartbeats 4000000 in
theorem tinsert_none (x : E) (hx : EWf x) (A : Option Addr) (cA : Nat) (k : TCore w base fp g [] (.slice A 0 cA) m d) :
    Calls Try.prog 27 #[.pointer (some ⟨g, 0, none⟩), .agg #[.int .i64 0, .int .i64 0], entV x] w (TTurns w base fp g [x] m d) := by
  obtain ⟨xa, xp, xd, xq⟩ := x
  obtain ⟨o1, H1⟩ : ∃ o, Hid (Obj.cells #[.int .i64 0, .int .i64 0] 54 = o) := ⟨_, rfl⟩
  obtain ⟨o2, H2⟩ : ∃ o, Hid (Obj.cells #[.int .u64 xa, .int .i64 xp, .bool xd, .int .i64 xq] 32 = o) := ⟨_, rfl⟩
  obtain ⟨o4, H4⟩ : ∃ o, Hid (Obj.cells #[.slice (some ⟨w.heap.size + 1 + 1, 0, none⟩) 1 1] 27 = o) := ⟨_, rfl⟩
  have hb1 : Below w.heap.size w (w.alloc o1) := (Below.refl _ _).alloc (Nat.le_refl _) _
  have k2 := (k.since hb1).since (w' := (w.alloc o1).alloc o2) ((Below.refl _ _).alloc (Nat.le_refl _) _)
  have k4 := (k2.since (w' := ((w.alloc o1).alloc o2).alloc o2) ((Below.refl _ _).alloc (Nat.le_refl _) _)).since (w' := (((w.alloc o1).alloc o2).alloc o2).alloc o4) ((Below.refl _ _).alloc (Nat.le_refl _) _)
  have c2 := k2.c0
  have c4 := k4.c0
  have f4 := k4.free 0
  have hgl := k.glt
  have HF := Lib.hid (k.made ⟨xa, xp, xd, xq⟩ hx o1 o2 o2 o4 H2.out.symm (w.heap.size + 1 + 1) rfl H4.out.symm)
  rw [← H1.out, ← H2.out, ← H4.out] at c4 f4 HF
  rw [← H1.out, ← H2.out] at c2
  clear k k2 k4 hb1 H1 H2 H4
  unfold entV
  dsimp only
  go_enter Try.func27, Try.ntmps27
  go_wp2_with fail
  go_end0
  exact HF.out
end
end Go.Proofs.Ythamnmadgfmbkaa
