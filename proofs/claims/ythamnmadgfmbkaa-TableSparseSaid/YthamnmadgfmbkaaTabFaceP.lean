/- The landed table: Put. Conditions: the table's cells; fewer than 120 entries. -/
import Derived.Test.YthamnmadgfmbkaaTabFaceD
set_option linter.unusedVariables false
set_option linter.unusedSimpArgs false
namespace Go.Proofs.Ythamnmadgfmbkaa
open Go.RowKit

theorem run_index_ents (r n c k : Nat) (hk : k < n) (w : World) : (Instr.indexAt 27 (.slice (some ⟨r, 0, none⟩) n c) (.int .i64 (k : Int))).run Try.prog w = .ok (.pointer (some ⟨r, k * 4, none⟩)) w := by
  have i0 : (0 : Int) ≤ (k : Int) := by omega
  have i1 : (k : Int) < (n : Int) := by omega
  go_simp
/-- The place of an entry may be stored to. -/
structure Spot (w : World) (r p : Nat) : Prop where
  e0 : ∃ v, w.cell? ⟨r, p, none⟩ = some v
  e1 : ∃ v, w.cell? ⟨r, p + 1, none⟩ = some v
  e2 : ∃ v, w.cell? ⟨r, p + 2, none⟩ = some v
  e3 : ∃ v, w.cell? ⟨r, p + 3, none⟩ = some v
  f : ∀ j, w.frozen? ⟨r, j, none⟩ = false
theorem TOne.spot {w : World} {base h cA r c k : Nat} {fp : Nat → Prop} {l : List E} (o : TOne w base fp l h cA r c) (hk : k < l.length) : Spot w r (k * 4) := by
  obtain ⟨e0, e1, e2, e3, _, _⟩ := o.at_ hk
  exact ⟨⟨_, e0⟩, ⟨_, e1⟩, ⟨_, e2⟩, ⟨_, e3⟩, fun j => o.row.row.frozenAt _⟩
theorem run_store_ent (r p : Nat) (x : E) (w : World) (s : Spot w r p) : (Instr.storeAt 32 (.pointer (some ⟨r, p, none⟩)) (entV x)).run Try.prog w = .ok () (putEn w r p x) := by
  obtain ⟨⟨v0, e0⟩, ⟨v1, e1⟩, ⟨v2, e2⟩, ⟨v3, e3⟩, f⟩ := s
  have f0 := f p
  have f1 := f (p + 1)
  have f2 := f (p + 2)
  have f3 := f (p + 3)
  clear f
  unfold entV putEn
  go_simp
/-- Behind the store of an entry. -/
def PutE (WD : World) (r p : Nat) (x : E) (W : World) : Prop := ∃ V, Below WD.heap.size WD V ∧ Below (putEn V r p x).heap.size (putEn V r p x) W
theorem PutE.later {WD W W' : World} {r p : Nat} {x : E} (h : PutE WD r p x W) (hl : Later W W') : PutE WD r p x W' := by
  obtain ⟨V, h1, h2⟩ := h
  exact ⟨V, h1, below_chain h2 hl⟩
section
variable {w : World} {base g h cA r c n k : Nat} {l L : List E} {fp : Nat → Prop} {v : Value} {m d : Int}
theorem tinsert_any (x : E) (hx : EWf x) (hs : Srt l) (hl : l.length < 120) (hg : getT l x.addr = none) (K : TCore w base fp g l v m d) :
    Calls Try.prog 27 #[.pointer (some ⟨g, 0, none⟩), .agg #[.int .i64 0, .int .i64 (aheadT l x.addr : Nat)], entV x] w (TTurns w base fp g (putT l x) m d) := by
  rw [put_at hs hg]
  rcases K.rows with ⟨rfl, A, cA, rfl, hr, hf⟩ | ⟨h0, h, cA, r, c, rfl, ho⟩
  · exact tinsert_none x hx A cA K
  · exact tinsert_one x hx h0 hl (ahead_le l x.addr) K ho
/-- One entry written over. -/
theorem TCore.over (K : TCore w base fp g l (.slice (some ⟨h, 0, none⟩) 1 cA) m d) (o : TOne w base fp l h cA r c) (hk : k < l.length) (x : E) (hx : EWf x) :
    TCore (putEn w r (k * 4) x) base fp g (l.set k x) (.slice (some ⟨h, 0, none⟩) 1 cA) m d ∧ Turn fp w (putEn w r (k * 4) x) := by
  obtain ⟨h1, h2⟩ := entRow_set o.row hk x hx
  have hrg : r ≠ g := by
    obtain ⟨cur, hc⟩ := Row.typed o.row r (by simp [blk])
    exact K.tab_other hc (by decide)
  have hrh : h ≠ r := by
    obtain ⟨cur, hc⟩ := Row.typed o.row r (by simp [blk])
    obtain ⟨cur2, hc2⟩ := Row.typed o.rows h (by simp [blk])
    intro e
    rw [e] at hc2
    have := other_type hc2 hc
    revert this; decide
  have ht : Turn fp w (putEn w r (k * 4) x) := Turn.of_grown h2 fun b e => by rw [← Option.some.inj e]; exact o.fr
  have hsz : w.heap.size ≤ (putEn w r (k * 4) x).heap.size := h2.size
  refine ⟨⟨K.own, K.ge, fun b hb => Nat.lt_of_lt_of_le (K.lt b hb) hsz, (h2.block g K.glt fun e => hrg (Option.some.inj e).symm).trans K.tab, Or.inr ⟨by rw [List.length_set]; exact Nat.lt_of_le_of_lt (Nat.zero_le _) hk, h, cA, r, c, rfl, ?_, ?_, o.fh, o.fr⟩⟩, ht⟩
  · rw [List.length_set]
    exact Row.at_block o.rows fun b hb => by
      rw [blk_zero h b hb]
      exact h2.block h (K.lt h o.fh) fun e => hrh (Option.some.inj e)
  · rw [List.length_set]; exact h1
theorem dirty_over (hs : Srt l) {x y : E} (hg : getT l x.addr = some y) : (dirtyT l : Int) + (if y.dirty = true then (-1) else 0) + (if x.dirty = true then 1 else 0) = (dirtyT (putT l x) : Int) := by
  have h1 := countP_put (·.dirty) l x
  rw [countP_at _ hs, hg] at h1
  dsimp only at h1
  unfold dirtyT
  revert h1
  cases y.dirty <;> cases x.dirty <;> simp <;> omega
theorem dirty_over2 (hs : Srt l) {x y : E} (hg : getT l x.addr = some y) {d6 : Int} (h6 : (dirtyT l : Int) + (if y.dirty = true then (-1) else 0) = d6) : d6 + (if x.dirty = true then 1 else 0) = (dirtyT (putT l x) : Int) := by
  rw [← h6]; exact dirty_over hs hg
theorem over_at (hs : Srt l) {x y : E} (hg : getT l x.addr = some y) (hk : aheadT l x.addr = k) : putT l x = l.set k x := by rw [put_over hs hg, hk]
theorem TCore.same (K : TCore w base fp g l v m d) (e : l = L) : TCore w base fp g L v m d := e ▸ K
theorem len_over (hs : Srt l) {x y : E} (hg : getT l x.addr = some y) : (putT l x).length = l.length := by
  have := len_put hs x
  rw [hg] at this
  exact this
theorem len_over2 (hs : Srt l) {x y : E} (hg : getT l x.addr = some y) : (l.length : Int) + (-1) + 1 = ((putT l x).length : Int) := by
  rw [len_over hs hg]; omega
theorem len_new (hs : Srt l) {x : E} (hg : getT l x.addr = none) : (putT l x).length = l.length + 1 := by
  have := len_put hs x
  rw [hg] at this
  exact this
set_option maxHeartbeats 8000000 in
set_option maxRecDepth 20000 in
theorem tput_any (x : E) (hx : EWf x) (hD : TabAt w base fp g l) (hl : l.length < 120) : Calls Try.prog 10 #[.pointer (some ⟨g, 0, none⟩), entV x] w (TLeads w base fp g (putT l x) (getT l x.addr)) := by
  obtain ⟨v, K⟩ := hD.core
  have HS := Lib.hid hD.wf.srt
  have HTW := Lib.hid (tw_put hD.wf hx hl)
  have HDD := Lib.hid hD
  have HFW := Lib.hid hl
  have HEX := Lib.hid hx
  obtain ⟨xa, xp, xd, xq⟩ := x
  obtain ⟨WA, HWA⟩ : ∃ WA, Hid (WA = w.alloc (.cells #[.int .u64 xa, .int .i64 xp, .bool xd, .int .i64 xq] 32)) := ⟨_, rfl⟩
  have SA : Hid (Below w.heap.size w WA) := by rw [HWA.out]; exact (Below.refl _ _).alloc (Nat.le_refl _) _
  have XA : Hid (RowEn WA w.heap.size ⟨xa, xp, xd, xq⟩) := by rw [HWA.out]; exact rowEn_new w ⟨xa, xp, xd, xq⟩
  obtain ⟨W0, HW0⟩ : ∃ W0, Hid (W0 = WA.alloc (.cells #[.int .u64 0, .int .i64 0, .bool false, .int .i64 0] 32)) := ⟨_, rfl⟩
  have hbA : Below WA.heap.size WA W0 := by rw [HW0.out]; exact (Below.refl _ _).alloc (Nat.le_refl _) _
  have S0 := Lib.hid (below_chain SA.out hbA)
  have X0 := Lib.hid (XA.out.since hbA)
  have R0 : Hid (RowEn W0 WA.heap.size E.zero) := by rw [HW0.out]; exact rowEn_new WA E.zero
  have hsz : WA.heap.size = w.heap.size + 1 := by rw [HWA.out]; simp
  have K0 := Lib.hid (K.since S0.out)
  have C := Lib.hid (tseek_any xa hD.wf.srt hD.wf.few K0.out)
  have x00 := X0.out.at_.c0
  dsimp only at x00
  rw [HW0.out, HWA.out] at x00
  obtain ⟨b3, HB3⟩ : ∃ b, Hid (w.heap.size = b) := ⟨_, rfl⟩
  obtain ⟨b0, HB0⟩ : ∃ b, Hid (w.heap.size + 1 = b) := ⟨_, rfl⟩
  rw [hsz, HB0.out] at R0
  rw [HB3.out] at X0
  have HBW : Hid (b0 = w.heap.size + 1 ∧ b3 = w.heap.size) := ⟨HB0.out.symm, HB3.out.symm⟩
  obtain ⟨k, HK⟩ : ∃ k, Hid (aheadT l xa = k) := ⟨_, rfl⟩
  rw [HK.out] at C
  clear K hD hx hl SA XA hbA
  unfold seekV at C
  dsimp only
  unfold entV
  dsimp only
  cases hg : getT l xa with
  | none =>
    rw [hg] at C
    have HG := Lib.hid hg
    clear hg
    go_enter Try.func10, Try.ntmps10
    go_wp2_with fail
    rw [HB0.out, HB3.out, ← HWA.out, ← HW0.out]
    clear HW0 HWA HB0 HB3 x00 hsz
    refine C.out.mono ?_
    rintro e W1 ⟨rfl, hb⟩
    obtain ⟨W2, HW2⟩ : ∃ W2, Hid (W2 = W1.alloc (.cells #[.int .i64 0, .int .i64 (k : Int)] 54)) := ⟨_, rfl⟩
    have hb2 : Below W1.heap.size W1 W2 := by rw [HW2.out]; exact (Below.refl _ _).alloc (Nat.le_refl _) _
    have P2 : Hid (RowPl W2 W1.heap.size 0 k) := by rw [HW2.out]; exact rowPl_new W1 0 k
    have S2 := Lib.hid (below_chain (below_chain S0.out hb.out) hb2)
    have R2 := Lib.hid ((R0.out.since hb.out).since hb2)
    have X2 := Lib.hid ((X0.out.since hb.out).since hb2)
    have K2 := Lib.hid ((K0.out.since hb.out).since hb2)
    have CI := Lib.hid (tinsert_any ⟨xa, xp, xd, xq⟩ HEX.out HS.out HFW.out HG.out K2.out)
    dsimp only at CI
    unfold entV at CI
    dsimp only at CI
    rw [HK.out] at CI
    obtain ⟨p0, p1⟩ := And.intro P2.out.c0 P2.out.c1
    obtain ⟨x0, x1, x2, x3⟩ := X2.out.at_
    dsimp only at x0 x1 x2 x3
    clear hb hb2 S0 R0 X0 K0 C
    rw [HW2.out] at p0 p1 x0 x1 x2 x3
    go_wp2_with fail
    rw [← HW2.out]
    clear p0 p1 x0 x1 x2 x3 HW2
    refine CI.out.mono ?_
    rintro e W3 ⟨rfl, v3, hK3, hM3⟩
    have HA0 := Lib.hid (apart_of (b0 := b0) HDD.out.lt hM3 (by have := HBW.out.1; omega) R2.out.lt)
    have HA3 := Lib.hid (apart_of (b0 := b3) HDD.out.lt hM3 (by have := HBW.out.2; omega) X2.out.lt)
    have R3 := Lib.hid (R2.out.keep hM3.turn HA0.out.1)
    have X3 := Lib.hid (X2.out.keep hM3.turn HA3.out.1)
    have HM3 := Lib.hid hM3
    have HDC := HDD.out.wf.few
    have hdl : dirtyT l ≤ l.length := List.countP_le_length
    have CC := Lib.hid (tcount_any ⟨xa, xp, xd, xq⟩ 1 (by decide) (by decide) (by omega) (by omega) (by omega) (by omega) hK3)
    unfold entV at CC
    dsimp only at CC
    have HBS := Lib.hid R2.out.lt
    obtain ⟨y0, y1, y2, y3⟩ := X3.out.at_
    dsimp only at y0 y1 y2 y3
    clear hM3 hK3 R2 X2 K2 P2 CI HDC hdl
    go_wp2_with fail
    refine CC.out.mono ?_
    rintro e W5 ⟨rfl, hK5, hT5⟩
    have R5 := Lib.hid (R3.out.keep hT5 HA0.out.2)
    have hm5 : (l.length : Int) + 1 = ((putT l ⟨xa, xp, xd, xq⟩).length : Int) := by
      have := len_new (x := ⟨xa, xp, xd, xq⟩) HS.out HG.out
      omega
    have hd5 : (dirtyT l : Int) + (if xd = true then 1 else 0) = (dirtyT (putT l ⟨xa, xp, xd, xq⟩) : Int) := by
      have := dirty_put_new (x := ⟨xa, xp, xd, xq⟩) HS.out HG.out
      dsimp only at this
      rw [this]
      cases xd <;> simp
    obtain ⟨fp9, hF9, hM9⟩ := lead_fin HDD.out.lt S2.out HM3.out hT5 hK5 (b0 := b0) (by have := HBW.out.1; omega) HBS.out HTW.out hm5 hd5 (.int .u64 0) (.int .i64 0) (.bool false) (.int .i64 0)
    have R9 := Lib.hid (R5.out.put ⟨0, 0, false, 0⟩)
    dsimp only at R9
    obtain ⟨W9, HW9⟩ : ∃ W9, Hid (W9 = ((((W5.setCell ⟨b0, 0, none⟩ (.int .u64 0)).setCell ⟨b0, 1, none⟩ (.int .i64 0)).setCell ⟨b0, 2, none⟩ (.bool false)).setCell ⟨b0, 3, none⟩ (.int .i64 0))) := ⟨_, rfl⟩
    rw [← HW9.out] at R9 hF9 hM9
    have HF9 := Lib.hid hF9
    have HM9 := Lib.hid hM9
    obtain ⟨d0, d1, d2, d3⟩ := R5.out.at_
    have f0 := R5.out.free 0
    have f1 := R5.out.free 1
    have f2 := R5.out.free 2
    have f3 := R5.out.free 3
    unfold E.zero at d0 d1 d2 d3
    dsimp only at d0 d1 d2 d3
    clear hF9 hM9 hK5 hT5 hm5 hd5 y0 y1 y2 y3 R3 X3 CC HM3
    go_wp2_with fail
    rw [← HW9.out]
    obtain ⟨r0, r1, r2, r3⟩ := R9.out.at_
    dsimp only at r0 r1 r2 r3
    exact bodyPost_ret (v := pairO none) (by simp [results, Try.results10, go_sem, r0, r1, r2, r3]; rfl) rfl ⟨fp9, rfl, HF9.out, HM9.out⟩
  | some y =>
    rw [hg] at C
    have HG := Lib.hid hg
    obtain ⟨h, cA, r, c, rfl, ho, hk, hy⟩ := K0.out.rows.one HS.out hg
    rw [HK.out] at hk hy
    have HO := Lib.hid ho
    have HY := Lib.hid hy
    have HKN := Lib.hid hk
    obtain ⟨n, HN⟩ : ∃ n, Hid (l.length = n) := ⟨_, rfl⟩
    obtain ⟨ya, yp, yd, yq⟩ := y
    clear ho hk hy hg
    go_enter Try.func10, Try.ntmps10
    go_wp2_with fail
    rw [HB0.out, HB3.out, ← HWA.out, ← HW0.out]
    clear HW0 HWA HB0 HB3 x00 hsz
    refine C.out.mono ?_
    rintro e W1 ⟨rfl, hb⟩
    obtain ⟨W2, HW2⟩ : ∃ W2, Hid (W2 = W1.alloc (.cells #[.int .i64 0, .int .i64 (k : Int)] 54)) := ⟨_, rfl⟩
    have hb2 : Below W1.heap.size W1 W2 := by rw [HW2.out]; exact (Below.refl _ _).alloc (Nat.le_refl _) _
    have P2 : Hid (RowPl W2 W1.heap.size 0 k) := by rw [HW2.out]; exact rowPl_new W1 0 k
    have S2 := Lib.hid (below_chain (below_chain S0.out hb.out) hb2)
    have R2 := Lib.hid ((R0.out.since hb.out).since hb2)
    have X2 := Lib.hid ((X0.out.since hb.out).since hb2)
    have K2 := Lib.hid ((K0.out.since hb.out).since hb2)
    have O2 := Lib.hid ((HO.out.since hb.out).since hb2)
    obtain ⟨b6, HB6⟩ : ∃ b, Hid (W1.heap.size = b) := ⟨_, rfl⟩
    rw [HB6.out] at P2
    clear hb hb2 S0 R0 X0 K0 C HO
    go_wp2_with fail
    rw [← HW2.out, HB6.out]
    clear HW2 HB6
    have hbd : Below W2.heap.size W2 W2.drew := (Below.refl _ _).drew
    have K3 := Lib.hid (K2.out.since hbd)
    have O3 := Lib.hid (O2.out.since hbd)
    have P3 := Lib.hid (P2.out.since hbd)
    have c0 := K3.out.c0
    have q0 := P3.out.c0
    have q1 := P3.out.c1
    have t0 := O3.out.c0
    obtain ⟨e0, e1, e2, e3, i0, i1⟩ := O3.out.at_ HKN.out
    rw [HY.out] at e0 e1 e2 e3
    rw [HN.out] at i1 t0
    dsimp only at e0 e1 e2 e3
    have hba : Below W2.heap.size W2 (W2.alloc (.cells #[.int .u64 0, .int .i64 0, .bool false, .int .i64 0] 32)) := (Below.refl _ _).alloc (Nat.le_refl _) _
    have Ka := K2.out.since hba
    have Oa := O2.out.since hba
    have Pa := P2.out.since hba
    have c0a := Ka.c0
    have q0a := Pa.c0
    have q1a := Pa.c1
    have t0a := Oa.c0
    obtain ⟨e0a, e1a, e2a, e3a, _, _⟩ := Oa.at_ HKN.out
    rw [HY.out] at e0a e1a e2a e3a
    rw [HN.out] at t0a
    dsimp only at e0a e1a e2a e3a
    have c0b : (W2.alloc (.cells #[.int .u64 0, .int .i64 0, .bool false, .int .i64 0] 32)).drew.cell? ⟨g, 0, none⟩ = _ := c0a
    have q0b : (W2.alloc (.cells #[.int .u64 0, .int .i64 0, .bool false, .int .i64 0] 32)).drew.cell? ⟨b6, 0, none⟩ = _ := q0a
    have q1b : (W2.alloc (.cells #[.int .u64 0, .int .i64 0, .bool false, .int .i64 0] 32)).drew.cell? ⟨b6, 1, none⟩ = _ := q1a
    have t0b : (W2.alloc (.cells #[.int .u64 0, .int .i64 0, .bool false, .int .i64 0] 32)).drew.cell? ⟨h, 0, none⟩ = _ := t0a
    clear Ka Oa Pa hba
    go_region
    clear c0 q0 q1 t0 e0 e1 e2 e3 c0a q0a q1a t0a e0a e1a e2a e3a c0b q0b q1b t0b K3 O3 P3 hbd
    obtain ⟨W3, HW3⟩ : ∃ W3, Hid (W3 = (W2.alloc (.cells #[.int .u64 ya, .int .i64 yp, .bool yd, .int .i64 yq] 32)).drew) := ⟨_, rfl⟩
    have hb3 : Below W2.heap.size W2 W3 := by rw [HW3.out]; exact ((Below.refl _ _).alloc (Nat.le_refl _) _).drew
    have Y3 : Hid (RowEn W3 W2.heap.size ⟨ya, yp, yd, yq⟩) := by rw [HW3.out]; exact ⟨(rowEn_new W2 ⟨ya, yp, yd, yq⟩).row⟩
    have hb8 : w.heap.size ≤ W2.heap.size := S2.out.size
    obtain ⟨b8, HB8⟩ : ∃ b, Hid (W2.heap.size = b) := ⟨_, rfl⟩
    rw [← HW3.out, HB8.out]
    rw [HB8.out] at Y3 hb8
    have HB8W := Lib.hid hb8
    have HB80 : Hid (b0 < b8 ∧ b3 < b8) := by rw [← HB8.out]; exact ⟨R2.out.lt, X2.out.lt⟩
    have hb4 : Below W3.heap.size W3 W3.drew := (Below.refl _ _).drew
    have S3 := Lib.hid (below_chain (below_chain S2.out hb3) hb4)
    have R3 := Lib.hid ((R2.out.since hb3).since hb4)
    have X3 := Lib.hid ((X2.out.since hb3).since hb4)
    have Y4 := Lib.hid (Y3.out.since hb4)
    have K3 := Lib.hid ((K2.out.since hb3).since hb4)
    have O3 := Lib.hid ((O2.out.since hb3).since hb4)
    have P3 := Lib.hid ((P2.out.since hb3).since hb4)
    have HKZ : Hid (k < n) := by show _ < _; rw [← HN.out]; exact HKN.out
    obtain ⟨WD, HWD⟩ : ∃ W, Hid (W = W3.drew) := ⟨_, rfl⟩
    rw [← HWD.out] at S3 R3 X3 Y4 K3 O3 P3
    have H1L : ∀ W W', PutE WD r (k * 4) ⟨xa, xp, xd, xq⟩ W → Later W W' → PutE WD r (k * 4) ⟨xa, xp, xd, xq⟩ W' := fun W W' a b => a.later b
    clear hb3 hb4 hb8 HW3 HB8 S2 R2 X2 K2 O2 P2 Y3
    go_wp2_with fail
    refine region_of_steps7 (by kernel_rfl) [some (.pointer (some ⟨g, 0, none⟩)), some (.pointer (some ⟨g, 0, none⟩)), some (.pointer (some ⟨g, 0, none⟩)), some (.slice (some ⟨h, 0, none⟩) 1 cA), some (.pointer (some ⟨b6, 0, none⟩)), some (.int .i64 0), some (.pointer (some ⟨h, 0, none⟩)), some (.slice (some ⟨r, 0, none⟩) n c), some (.pointer (some ⟨b6, 1, none⟩)), some (.int .i64 (k : Int)), some (entV ⟨xa, xp, xd, xq⟩), some (.pointer (some ⟨r, k * 4, none⟩)), none] [12] [] (JT WD (PutE WD r (k * 4) ⟨xa, xp, xd, xq⟩) (fun _ => False)) (by kernel_rfl) (by kernel_rfl) (by rw [← HWD.out]; exact JT.start1) ?_ ?_
    · refine Steps7.cons ?_ (Steps7.cons ?_ (Steps7.cons ?_ (Steps7.cons ?_ (Steps7.cons ?_ (Steps7.cons ?_ (Steps7.cons ?_ (Steps7.cons ?_ (Steps7.cons ?_ (Steps7.cons ?_ (Steps7.cons ?_ (Steps7.cons ?_ (Steps7.cons ?_ (Steps7.nil)))))))))))))
      · intro listed a W H hj hl hd
        have t0 : a.tmps.getD 0 undef = .pointer (some ⟨g, 0, none⟩) := (H.old 0 (by kernel_rfl)).trans rfl
        exact step7_value (i := 0) rfl rfl (run_op_move rfl t0) (calm7 (fun fs vs x y h hl => JT.later H1L (fun _ _ e _ => e) h hl) (by kernel_rfl) (by kernel_rfl) hj (later_refl _)) rfl
      · intro listed a W H hj hl hd
        have t41 : a.tmps.getD 41 undef = .pointer (some ⟨g, 0, none⟩) := H.get 0 41 (by kernel_rfl) (dep_of hd 0 (by kernel_rfl)) (fun _ h => by cases h)
        exact step7_value (i := 1) rfl rfl (run_op_nilCheck rfl t41) (calm7 (fun fs vs x y h hl => JT.later H1L (fun _ _ e _ => e) h hl) (by kernel_rfl) (by kernel_rfl) hj (later_refl _)) rfl
      · intro listed a W H hj hl hd
        have t42 : a.tmps.getD 42 undef = .pointer (some ⟨g, 0, none⟩) := H.get 1 42 (by kernel_rfl) (dep_of hd 1 (by kernel_rfl)) (fun _ h => by cases h)
        exact step7_value (i := 2) rfl rfl (run_op_fieldAddr rfl t42 (run_field_t0 g W)) (calm7 (fun fs vs x y h hl => JT.later H1L (fun _ _ e _ => e) h hl) (by kernel_rfl) (by kernel_rfl) hj (later_refl _)) rfl
      · intro listed a W H hj hl hd
        have t43 : a.tmps.getD 43 undef = .pointer (some ⟨g, 0, none⟩) := H.get 2 43 (by kernel_rfl) (dep_of hd 2 (by kernel_rfl)) (fun _ h => by cases h)
        exact step7_value (i := 3) rfl rfl (run_op_load rfl t43 (run_load_rows g _ W (K3.out.since (hj.below (H.notyets 4 hl (by kernel_rfl) : (flags [12] listed).getD 0 false = false))).c0)) (calm7 (fun fs vs x y h hl => JT.later H1L (fun _ _ e _ => e) h hl) (by kernel_rfl) (by kernel_rfl) hj (later_refl _)) rfl
      · intro listed a W H hj hl hd
        have t6 : a.tmps.getD 6 undef = .pointer (some ⟨b6, 0, none⟩) := (H.old 6 (by kernel_rfl)).trans rfl
        exact step7_value (i := 4) rfl rfl (run_op_fieldAddr rfl t6 (run_field_p0 b6 W)) (calm7 (fun fs vs x y h hl => JT.later H1L (fun _ _ e _ => e) h hl) (by kernel_rfl) (by kernel_rfl) hj (later_refl _)) rfl
      · intro listed a W H hj hl hd
        have t45 : a.tmps.getD 45 undef = .pointer (some ⟨b6, 0, none⟩) := H.get 4 45 (by kernel_rfl) (dep_of hd 4 (by kernel_rfl)) (fun _ h => by cases h)
        exact step7_value (i := 5) rfl rfl (run_op_load rfl t45 (run_load_int b6 0 _ W (P3.out.since (hj.below (H.notyets 4 hl (by kernel_rfl) : (flags [12] listed).getD 0 false = false))).c0)) (calm7 (fun fs vs x y h hl => JT.later H1L (fun _ _ e _ => e) h hl) (by kernel_rfl) (by kernel_rfl) hj (later_refl _)) rfl
      · intro listed a W H hj hl hd
        have t44 : a.tmps.getD 44 undef = .slice (some ⟨h, 0, none⟩) 1 cA := H.get 3 44 (by kernel_rfl) (dep_of hd 3 (by kernel_rfl)) (fun _ h => by cases h)
        have t46 : a.tmps.getD 46 undef = .int .i64 0 := H.get 5 46 (by kernel_rfl) (dep_of hd 5 (by kernel_rfl)) (fun _ h => by cases h)
        exact step7_value (i := 6) rfl rfl (run_op_index rfl t44 t46 (run_index_rows h cA W)) (calm7 (fun fs vs x y h hl => JT.later H1L (fun _ _ e _ => e) h hl) (by kernel_rfl) (by kernel_rfl) hj (later_refl _)) rfl
      · intro listed a W H hj hl hd
        have t47 : a.tmps.getD 47 undef = .pointer (some ⟨h, 0, none⟩) := H.get 6 47 (by kernel_rfl) (dep_of hd 6 (by kernel_rfl)) (fun _ h => by cases h)
        exact step7_value (i := 7) rfl rfl (run_op_load rfl t47 (run_load_ents h n c (some ⟨r, 0, none⟩) W (HN.out ▸ (O3.out.since (hj.below (H.notyets 4 hl (by kernel_rfl) : (flags [12] listed).getD 0 false = false))).c0))) (calm7 (fun fs vs x y h hl => JT.later H1L (fun _ _ e _ => e) h hl) (by kernel_rfl) (by kernel_rfl) hj (later_refl _)) rfl
      · intro listed a W H hj hl hd
        have t6 : a.tmps.getD 6 undef = .pointer (some ⟨b6, 0, none⟩) := (H.old 6 (by kernel_rfl)).trans rfl
        exact step7_value (i := 8) rfl rfl (run_op_fieldAddr rfl t6 (run_field_p1 b6 W)) (calm7 (fun fs vs x y h hl => JT.later H1L (fun _ _ e _ => e) h hl) (by kernel_rfl) (by kernel_rfl) hj (later_refl _)) rfl
      · intro listed a W H hj hl hd
        have t49 : a.tmps.getD 49 undef = .pointer (some ⟨b6, 1, none⟩) := H.get 8 49 (by kernel_rfl) (dep_of hd 8 (by kernel_rfl)) (fun _ h => by cases h)
        exact step7_value (i := 9) rfl rfl (run_op_load rfl t49 (run_load_int b6 1 _ W (P3.out.since (hj.below (H.notyets 4 hl (by kernel_rfl) : (flags [12] listed).getD 0 false = false))).c1)) (calm7 (fun fs vs x y h hl => JT.later H1L (fun _ _ e _ => e) h hl) (by kernel_rfl) (by kernel_rfl) hj (later_refl _)) rfl
      · intro listed a W H hj hl hd
        have t3 : a.tmps.getD 3 undef = .pointer (some ⟨b3, 0, none⟩) := (H.old 3 (by kernel_rfl)).trans rfl
        exact step7_value (i := 10) rfl rfl (run_op_load rfl t3 (run_load_ent b3 ⟨xa, xp, xd, xq⟩ W (X3.out.since (hj.below (H.notyets 4 hl (by kernel_rfl) : (flags [12] listed).getD 0 false = false))))) (calm7 (fun fs vs x y h hl => JT.later H1L (fun _ _ e _ => e) h hl) (by kernel_rfl) (by kernel_rfl) hj (later_refl _)) rfl
      · intro listed a W H hj hl hd
        have t48 : a.tmps.getD 48 undef = .slice (some ⟨r, 0, none⟩) n c := H.get 7 48 (by kernel_rfl) (dep_of hd 7 (by kernel_rfl)) (fun _ h => by cases h)
        have t50 : a.tmps.getD 50 undef = .int .i64 (k : Int) := H.get 9 50 (by kernel_rfl) (dep_of hd 9 (by kernel_rfl)) (fun _ h => by cases h)
        exact step7_value (i := 11) rfl rfl (run_op_index rfl t48 t50 (run_index_ents r n c k HKZ.out W)) (calm7 (fun fs vs x y h hl => JT.later H1L (fun _ _ e _ => e) h hl) (by kernel_rfl) (by kernel_rfl) hj (later_refl _)) rfl
      · intro listed a W H hj hl hd
        have t52 : a.tmps.getD 52 undef = .pointer (some ⟨r, k * 4, none⟩) := H.get 11 52 (by kernel_rfl) (dep_of hd 11 (by kernel_rfl)) (fun _ h => by cases h)
        have t51 : a.tmps.getD 51 undef = entV ⟨xa, xp, xd, xq⟩ := H.get 10 51 (by kernel_rfl) (dep_of hd 10 (by kernel_rfl)) (fun _ h => by cases h)
        have f0 : (flags [12] listed).getD 0 false = false := hl
        have HB := hj.below f0
        have hO := O3.out.since HB
        have hk9 := JT.first (WD := WD) (Q2 := fun _ => False) (fs := flags [12] listed) (vs := slots [] a) Nat.zero_lt_one rfl (show PutE WD r (k * 4) ⟨xa, xp, xd, xq⟩ _ from ⟨W, HB, Below.refl _ _⟩)
        rw [← flags_put (m := 12) 0 rfl (by decide)] at hk9
        exact step7_done (i := 12) rfl rfl rfl (run_op_store rfl t52 t51 (run_store_ent r (k * 4) ⟨xa, xp, xd, xq⟩ W (hO.spot HKN.out))) hk9 trivial
    · intro a WC hdef hsz hw hall hact
      obtain ⟨u, hu⟩ : ∃ u : Nat → Value, ∀ k, a.tmps.getD k undef = u k := ⟨_, fun _ => rfl⟩
      simp only [hu] at hact
      have hact' : a = ([41, 42, 43, 44, 45, 46, 47, 48, 49, 50, 51, 52] : List Nat).foldl (fun b k => b.put (some k) (u k)) _ := hact
      simp only [List.foldl] at hact'
      simp only [Act.put, List.setIfInBounds_toArray, List.set_cons_succ, List.set_cons_zero] at hact'
      have HAC := Lib.hid hact'
      have HX := Lib.hid hw
      clear hact hact' hall hdef hsz hw
      rw [HAC.out]
      obtain ⟨W4, hb9, hb10⟩ := HX.out.one rfl rfl
      obtain ⟨hK4, hT4⟩ := (K3.out.since hb9).over (O3.out.since hb9) HKN.out ⟨xa, xp, xd, xq⟩ HEX.out
      have hK5 := hK4.since hb10
      obtain ⟨W5, HW5⟩ : ∃ W5, Hid (W5 = WC) := ⟨_, rfl⟩
      have hw5 := HW5.out
      rw [← hw5] at hK5 hb10 ⊢
      have hM5 : Moves WD fp W5 fp := ⟨((Turn.of_below (fp := fp) hb9).trans hT4 fun b hb => Or.inl hb).trans (Turn.of_below (fp := fp) hb10) fun b hb => Or.inl hb, fun b hb => Or.inl hb⟩
      clear hb9 hb10 hK4 hT4 hw5 HX hu HAC
      have HA0 := Lib.hid (apart_of (b0 := b0) HDD.out.lt hM5 (by have := HBW.out.1; omega) R3.out.lt)
      have HA3 := Lib.hid (apart_of (b0 := b3) HDD.out.lt hM5 (by have := HBW.out.2; omega) X3.out.lt)
      have HA8 := Lib.hid (apart_of (b0 := b8) HDD.out.lt hM5 HB8W.out Y4.out.lt)
      have R5 := Lib.hid (R3.out.keep hM5.turn HA0.out.1)
      have X5 := Lib.hid (X3.out.keep hM5.turn HA3.out.1)
      have Y5 := Lib.hid (Y4.out.keep hM5.turn HA8.out.1)
      have HM5 := Lib.hid hM5
      have HBS := Lib.hid R3.out.lt
      have HDC : Hid (l.length < 120 ∧ dirtyT l ≤ l.length) := ⟨HFW.out, List.countP_le_length⟩
      obtain ⟨l1, l2⟩ := HDC.out
      have C1 := Lib.hid (tcount_any ⟨ya, yp, yd, yq⟩ (-1) (by decide) (by decide) (by omega) (by omega) (by omega) (by omega) hK5)
      unfold entV at C1
      dsimp only at C1
      obtain ⟨z0, z1, z2, z3⟩ := Y5.out.at_
      dsimp only at z0 z1 z2 z3
      clear hK5 hM5 R3 X3 Y4 K3 O3 P3 HW5 H1L l1 l2
      go_wp2_with fail
      refine C1.out.mono ?_
      rintro e W6 ⟨rfl, hK6, hT6⟩
      have R6 := Lib.hid (R5.out.keep hT6 HA0.out.2)
      have X6 := Lib.hid (X5.out.keep hT6 HA3.out.2)
      have Y6 := Lib.hid (Y5.out.keep hT6 HA8.out.2)
      have HT6 := Lib.hid hT6
      obtain ⟨l1, l2⟩ := HDC.out
      obtain ⟨d6, HD6⟩ : ∃ q, Hid ((dirtyT l : Int) + (if yd = true then (-1) else 0) = q) := ⟨_, rfl⟩
      have hd6 := HD6.out
      have hbd6 : -1 ≤ d6 ∧ d6 ≤ 120 := by
        rw [← hd6]
        cases yd with
        | true => rw [if_pos rfl]; omega
        | false => rw [if_neg (by decide)]; omega
      try dsimp only at hK6
      rw [hd6] at hK6
      have C2 := Lib.hid (tcount_any ⟨xa, xp, xd, xq⟩ 1 (by decide) (by decide) (by omega) (by omega) (by omega) (by omega) hK6)
      unfold entV at C2
      dsimp only at C2
      obtain ⟨x0, x1, x2, x3⟩ := X6.out.at_
      dsimp only at x0 x1 x2 x3
      clear hK6 hT6 R5 X5 Y5 C1 z0 z1 z2 z3 l1 l2 hd6 hbd6
      go_wp2_with fail
      refine C2.out.mono ?_
      rintro e W7 ⟨rfl, hK7, hT7⟩
      have R7 := Lib.hid (R6.out.keep hT7 HA0.out.2)
      have Y7 := Lib.hid (Y6.out.keep hT7 HA8.out.2)
      have hm7 : (l.length : Int) + (-1) + 1 = ((putT l ⟨xa, xp, xd, xq⟩).length : Int) := len_over2 (x := ⟨xa, xp, xd, xq⟩) HS.out HG.out
      have hd7 : d6 + (if xd = true then 1 else 0) = (dirtyT (putT l ⟨xa, xp, xd, xq⟩) : Int) := dirty_over2 (x := ⟨xa, xp, xd, xq⟩) HS.out HG.out HD6.out
      have hK8 := hK7.same (over_at (x := ⟨xa, xp, xd, xq⟩) HS.out HG.out HK.out).symm
      have hT57 : Turn fp W5 W7 := HT6.out.trans hT7 fun b hb => Or.inl hb
      obtain ⟨fp9, hF9, hM9⟩ := lead_fin HDD.out.lt S3.out HM5.out hT57 hK8 (b0 := b0) (by have := HBW.out.1; omega) HBS.out HTW.out hm7 hd7 (.int .u64 ya) (.int .i64 yp) (.bool yd) (.int .i64 yq)
      have R9 := Lib.hid (R7.out.put ⟨ya, yp, yd, yq⟩)
      dsimp only at R9
      obtain ⟨W9, HW9⟩ : ∃ W9, Hid (W9 = ((((W7.setCell ⟨b0, 0, none⟩ (.int .u64 ya)).setCell ⟨b0, 1, none⟩ (.int .i64 yp)).setCell ⟨b0, 2, none⟩ (.bool yd)).setCell ⟨b0, 3, none⟩ (.int .i64 yq))) := ⟨_, rfl⟩
      rw [← HW9.out] at R9 hF9 hM9
      have HF9 := Lib.hid hF9
      have HM9 := Lib.hid hM9
      obtain ⟨z0, z1, z2, z3⟩ := Y7.out.at_
      obtain ⟨d0, d1, d2, d3⟩ := R7.out.at_
      have f0 := R7.out.free 0
      have f1 := R7.out.free 1
      have f2 := R7.out.free 2
      have f3 := R7.out.free 3
      unfold E.zero at d0 d1 d2 d3
      dsimp only at d0 d1 d2 d3 z0 z1 z2 z3
      clear hF9 hM9 hK7 hK8 hT7 hm7 hd7 hT57 x0 x1 x2 x3 R6 X6 Y6 C2 HM5
      go_wp2_with fail
      rw [← HW9.out]
      obtain ⟨r0, r1, r2, r3⟩ := R9.out.at_
      dsimp only at r0 r1 r2 r3
      exact bodyPost_ret (v := pairO (some ⟨ya, yp, yd, yq⟩)) (by simp [results, Try.results10, go_sem, r0, r1, r2, r3]; rfl) rfl ⟨fp9, rfl, HF9.out, HM9.out⟩
end
end Go.Proofs.Ythamnmadgfmbkaa
