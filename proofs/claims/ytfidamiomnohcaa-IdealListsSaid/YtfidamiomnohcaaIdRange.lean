/- A range over the landed ideal's map, nil or not; the landed Copy. Conditions: an ideal that stands so; at most 900 addresses, lists of at most 400. -/
import Derived.Test.YtfidamiomnohcaaIdTk
set_option linter.unusedVariables false
set_option linter.unusedSimpArgs false
set_option maxRecDepth 20000
namespace Go.Proofs.Ytfidamiomnohcaa
open Go.RowKit

def RangeI (w : World) (mp : Option Nat) (r : Nat) (ks : List Int) (F : Int → Value) (ls : List Int) : Prop :=
  match mp with
  | some b => RangeF w b r ks F ls
  | none => ks = [] ∧ ls = [] ∧ w.heap[r]? = some (.mapIter none 0 #[] 0)
def leftI (mp : Option Nat) (r : Nat) (w : World) : Nat :=
  match mp with
  | some b => w.rangeLeft b r
  | none => 0
section
variable {w w' : World} {base o r : Nat} {fp : Nat → Prop} {s : IS} {L : IdL} {mp : Option Nat} {ks ls : List Int} {F : Int → Value}
theorem RangeI.lt (h : RangeI w mp r ks F ls) : r < w.heap.size := by
  cases mp with
  | some b => exact RangeF.lt h
  | none => exact (Array.getElem?_eq_some_iff.1 h.2.2).1
theorem RangeI.sub (h : RangeI w mp r ks F ls) : ∀ x ∈ ls, x ∈ ks := by
  cases mp with
  | some b =>
    obtain ⟨D, n, left, cnt, h1, h2, h3, h4, h5⟩ := h
    exact h4
  | none => intro x hx; rw [h.2.1] at hx; cases hx
theorem RangeI.nodup (h : RangeI w mp r ks F ls) : ls.Nodup := by
  cases mp with
  | some b =>
    obtain ⟨D, n, left, cnt, h1, h2, h3, h4, h5⟩ := h
    exact h3
  | none => rw [h.2.1]; exact List.nodup_nil
theorem RangeI.keep (h : RangeI w mp r ks F ls) (e : ∀ b, mp = some b → w'.heap[b]? = w.heap[b]?) (e2 : w'.heap[r]? = w.heap[r]?) : RangeI w' mp r ks F ls := by
  cases mp with
  | some b => exact RangeF.keep h (e b rfl) e2
  | none => exact ⟨h.1, h.2.1, e2.trans h.2.2⟩
theorem leftI_keep (e : ∀ b, mp = some b → w'.heap[b]? = w.heap[b]?) (e2 : w'.heap[r]? = w.heap[r]?) : leftI mp r w' = leftI mp r w := by
  cases mp with
  | some b => exact RangeF.left_keep (e b rfl) e2
  | none => rfl
theorem run_next_none (hr : w.heap[r]? = some (.mapIter none 0 #[] 0)) (ty : TypeId) : (Instr.next (.pointer (some ⟨r, 0, none⟩)) false ty).run Try.prog w = .ok (.tuple #[.bool false]) w := by
  simp only [Instr.next, getObj, Sem.run_bind, Sem.run, hr, Result.andThen]
  rfl
theorem RangeI.next (h : RangeI w mp r ks F ls) :
    (ls = [] ∧ ∀ ty, (Instr.next (.pointer (some ⟨r, 0, none⟩)) false ty).run Try.prog w = .ok (.tuple #[.bool false]) w) ∨
    ∃ x w', x ∈ ls ∧ x ∈ ks ∧ (∃ a n c, F x = .slice a n c) ∧ (∀ ty, (Instr.next (.pointer (some ⟨r, 0, none⟩)) false ty).run Try.prog w = .ok (.tuple #[.bool true, .int .u64 x, F x]) w') ∧ (Instr.entry (.pointer (some ⟨r, 0, none⟩))).run Try.prog w' = .ok (.tuple #[.int .u64 x, F x]) w' ∧
      RangeI w' mp r ks F (ls.erase x) ∧ w.grownBy w' (some r) ∧ w'.heap.size = w.heap.size ∧ leftI mp r w' < leftI mp r w := by
  cases mp with
  | some b =>
    rcases RangeF.next h with h1 | ⟨x, w', h1, h2, h3, h4, h5, h6, h7, h8⟩
    · exact Or.inl h1
    · exact Or.inr ⟨x, w', h1, RangeI.sub (mp := some b) h x h1, h2, h3, h4, h5, h6, h7, h8⟩
  | none => exact Or.inl ⟨h.2.1, run_next_none h.2.2⟩
theorem IdIn.range (h : IdIn w base fp o s L) : ∃ w', (Instr.range 58 (.map L.mp)).run Try.prog w = .ok (.pointer (some ⟨w.heap.size, 0, none⟩)) w' ∧ RangeI w' L.mp w.heap.size s.ks (elemOf s L) s.ks ∧ Below w.heap.size w w' ∧ w'.heap.size = w.heap.size + 1 := by
  rcases hm : L.mp with _ | b
  · refine ⟨_, run_range_nilMap w _ _ _ Try.underlying58, ⟨h.but.nil hm, h.but.nil hm, by rw [Go.heap_alloc_new]⟩, (Below.refl _ _).alloc (Nat.le_refl _) _, by simp⟩
  · obtain ⟨w', h1, h2, h3, h4⟩ := (h.map b hm).range
    exact ⟨w', h1, h2, ⟨h3.os, h3.tape, h3.output, h3.size, fun k hk => h3.block k hk (by simp)⟩, h4⟩
/-- What Copy leaves. -/
def CopyOut (w : World) (s : IS) (e : Ending) (w' : World) : Prop :=
  ∃ o fq, e = .returned (.pointer (some ⟨o, 0, none⟩)) ∧ Hid (IdAt w' w.heap.size fq o s) ∧ Hid (Below w.heap.size w w')
/-- The copy while addresses are still to come. -/
structure Part (s t : IS) (ls : List Int) : Prop where
  size : t.size = s.size
  f : ∀ y, t.f y = if y ∈ ls then [Th.zero] else s.f y
theorem part_start {s : IS} (h : s.Ok) : Part s (newS s.size) s.ks := ⟨rfl, fun y => by
  by_cases e : y ∈ s.ks
  · rw [if_pos e]; rfl
  · rw [if_neg e, h.out e]; rfl⟩
theorem part_next {s t : IS} {ls : List Int} (h : Part s t ls) {x : Int} (hx : x ∈ ls) (hn : ls.Nodup) : Part s (putS t x (s.f x)) (ls.erase x) := ⟨h.size, fun y => by
  show upd t.f x (s.f x) y = _
  by_cases e : y = x
  · subst e
    rw [upd_self, if_neg (hn.not_mem_erase)]
  · rw [upd_ne _ _ e, h.f y]
    by_cases q : y ∈ ls
    · rw [if_pos q, if_pos ((List.mem_erase_of_ne e).2 q)]
    · rw [if_neg q, if_neg fun k => q (List.mem_of_mem_erase k)]⟩
theorem part_end {s t : IS} (h : Part s t []) (hs : s.Ok) (ht : t.Ok) : t = s := by
  have hf : t.f = s.f := by
    funext y
    rw [h.f y]; simp
  have hk : t.ks = s.ks := ris_ext ht.ris hs.ris fun y => by rw [ht.mem y, hs.mem y, hf]
  cases s; cases t
  have h1 := h.size
  simp only at h1 hf hk
  rw [h1, hf, hk]
set_option maxHeartbeats 8000000 in
theorem copy_any (h : IdIn w base fp o s L) (hks : s.ks.length ≤ 900) (hlen : ∀ a, (s.f a).length ≤ 400) : Calls Try.prog 27 #[.pointer (some ⟨o, 0, none⟩)] w (CopyOut w s) := by
  obtain ⟨size, HSZ⟩ : ∃ z, Hid (s.size = z) := ⟨_, rfl⟩
  have c0 := h.but.c0
  rw [HSZ.out] at c0
  obtain ⟨W1, HW1⟩ : ∃ W, Hid (w.alloc (.cells #[.int .i64 size, .map none] 60) = W) := ⟨_, rfl⟩
  have S1 : Hid (Below w.heap.size w W1) := by show Below _ _ _; rw [← HW1.out]; exact (Below.refl _ _).alloc (Nat.le_refl _) _
  have h1 := h.since S1.out
  have c1 := h1.but.c1
  obtain ⟨mp, HMP⟩ : ∃ m, Hid (L.mp = m) := ⟨_, rfl⟩
  obtain ⟨W2, hr2, hI2, hB2, hz2⟩ := h1.range
  rw [HMP.out] at c1 hr2 hI2
  obtain ⟨r, HR⟩ : ∃ r, Hid (W1.heap.size = r) := ⟨_, rfl⟩
  rw [HR.out] at hr2 hI2
  have S2 : Hid (Below w.heap.size w W2) := below_chain S1.out hB2
  obtain ⟨g, HG⟩ : ∃ g, Hid (w.heap.size = g) := ⟨_, rfl⟩
  have HRG : Hid (r = g + 1) := by show _ = _; rw [← HR.out, ← HW1.out, ← HG.out]; simp
  have HN1 : Hid (IdAt W1 w.heap.size (fun b => b = g) g (newS s.size)) := by
    show IdAt _ _ _ _ _
    rw [← HW1.out, ← HG.out, HSZ.out]
    refine ⟨⟨none, fun _ => 0, fun _ => 0⟩, ⟨heap_alloc_new w _, rfl, fun b e => (by cases e), fun a ha => (by cases ha), fun a ha => (by cases ha), fun a ha => (by cases ha), fun a ha => (by cases ha), fun a ha => (by cases ha), fun b hb => ?_, fun b hb => Nat.le_of_eq hb.symm, fun _ => rfl, new_ok size⟩, fun b e => (by cases e)⟩
    have hb' : b = w.heap.size := hb
    rw [hb']; simp
  have HN2 := Lib.hid (HN1.out.since hB2)
  have HF2 : Hid (∀ b, (fun b => b = g) b → b ≠ r) := fun b hb => by
    have hb' : b = g := hb
    rw [hb', HRG.out]; omega
  have HI2 := Lib.hid hI2
  have H := Lib.hid h
  have HMB : Hid (∀ b, mp = some b → b < w.heap.size) := fun b hb => h.but.lt b (h.but.fm b (HMP.out.trans hb))
  have HKS := Lib.hid hks
  have HLE := Lib.hid hlen
  have HP := Lib.hid (part_start h.but.ok)
  clear h h1 hI2 hB2 hz2 hks hlen HN1
  rw [← HW1.out] at c1 hr2
  go_enter Try.func27, Try.ntmps27
  go_wp2_with fail
  try go_frame
  rw [HG.out]
  go_loopw [4, 5] (fun t4 t5 wr => ∃ (ls : List Int) (fq : Nat → Prop) (t : IS), Hid (RangeI wr mp r s.ks (elemOf s L) ls) ∧ Hid (IdAt wr w.heap.size fq g t) ∧ Hid (∀ b, fq b → b ≠ r) ∧ Hid (Part s t ls) ∧ Hid (t.ks.length + ls.length ≤ 900) ∧ Hid (Below w.heap.size w wr)) (fun t4 t5 wr => leftI mp r wr)
  case atStart => exact ⟨s.ks, _, newS s.size, HI2, HN2, HF2, HP, by show 0 + s.ks.length ≤ 900; have := HKS.out; omega, S2⟩
  case round =>
    clear HI2 HN2 HF2 HP S2
    obtain ⟨ls, fq, t, HI, HN, HF, HP, HK, HB⟩ := hrel
    rcases HI.out.next with ⟨hls, hnx⟩ | ⟨x, w1, hx, hxk, ⟨zA, zn, zc, hF⟩, hnx, hen, hI1, hg1, hz1, hm1⟩
    · subst hls
      have HE : Hid (t = s) := part_end HP.out H.out.but.ok HN.out.ok
      rw [HE.out] at HN
      clear HE
      go_wp2_with fail
      go_ret
      exact ⟨_, _, rfl, HN, HB⟩
    · have HX := Lib.hid hx
      have HXK := Lib.hid hxk
      have HXU : Hid (U64 x) := H.out.but.ok.u64 x hxk
      have hF2 : elemOf s L x = .slice (some ⟨L.g x, 0, none⟩) (s.f x).length (L.c x) := rfl
      obtain ⟨n, HN0⟩ : ∃ q, Hid ((s.f x).length = q) := ⟨_, rfl⟩
      obtain ⟨c, HC0⟩ : ∃ q, Hid (L.c x = q) := ⟨_, rfl⟩
      obtain ⟨gx, HG0⟩ : ∃ q, Hid (L.g x = q) := ⟨_, rfl⟩
      rw [HN0.out, HC0.out, HG0.out] at hF2
      rw [hF2] at hnx hen
      have HR1 := Lib.hid hI1
      have HRW : Hid (w.heap.size ≤ r) := by show _ ≤ _; rw [HRG.out, HG.out]; omega
      have HB1 : Hid (Below w.heap.size w w1) := HB.out.grown hg1 HB.out.size fun k e => by rw [← Option.some.inj e]; exact HRW.out
      have HN1 : Hid (IdAt w1 w.heap.size fq g t) := HN.out.turn (Turn.of_grown (fp := fun b => b = r) hg1 fun b e => (Option.some.inj e).symm) fun b hb e => HF.out b hb e
      have HL1 := Lib.hid ((H.out.since HB1.out).but.rows x hxk (fun q => q))
      rw [HN0.out, HC0.out, HG0.out] at HL1
      have HM1 : Hid (leftI mp r w1 < leftI mp r wr) := hm1
      have HRL : Hid (r < w1.heap.size) := HR1.out.lt
      have hle := HLE.out x
      rw [HN0.out] at hle
      have CC := Lib.hid (cloneTh_any (some ⟨gx, 0, none⟩) n c (s.f x) w1 (by omega) HL1.out.lie (fun e => by cases e))
      clear hx hxk hF hF2 hI1 hg1 hz1 hm1 HN
      go_wp2_with fail
      refine CC.out.mono ?_
      rintro e w2 ⟨A2, n2, c2, rfl, hR2, hB2⟩
      have HB2 : Hid (Below w.heap.size w w2) := below_chain HB1.out hB2.out
      have hLK := H.out.but.ok.l x
      obtain ⟨r2, rfl⟩ := row_some hR2.out (by rw [← hR2.out.len]; exact List.length_pos_iff.2 hLK.ne)
      have HRGE : Hid (w1.heap.size ≤ r2) := Row.blk_ge hR2.out r2 (by simp [blk])
      have HN2 := Lib.hid (HN1.out.since hB2.out)
      obtain ⟨Lt, ht⟩ := HN2.out
      have hold : ∀ b, fq b → b < w1.heap.size := HN1.out.lt
      have hn2 : n2 = n := by rw [← hR2.out.len]; exact HN0.out
      have hPR : PutRow w2 w.heap.size g t Lt x r2 n2 c2 (s.f x) := ⟨hR2.out.elder HB1.out.size, hLK, fun e => by have := hold g ht.but.fo; have := HRGE.out; omega, fun m hm e => by have := hold m (ht.but.fm m hm); have := HRGE.out; omega, fun y hy _ e => by have := hold _ (ht.but.fr y hy); have := HRGE.out; omega⟩
      have CP := Lib.hid (put_any (L := Lt) (ht.but.more fun _ q => q.elim) ht.map HXU.out hPR (by omega) (by have := HK.out; omega) HB2.out.size (obj_not_map ht))
      have HGE : Hid (∀ b, fq b → w.heap.size ≤ b) := HN1.out.ge
      have HR2 : Hid (RangeI w2 mp r s.ks (elemOf s L) (ls.erase x)) := HR1.out.keep (fun b hb => hB2.out.block b (Nat.lt_of_lt_of_le (HMB.out b hb) HB1.out.size)) (hB2.out.block r HRL.out)
      have HLF : Hid (leftI mp r w2 = leftI mp r w1) := leftI_keep (fun b hb => hB2.out.block b (Nat.lt_of_lt_of_le (HMB.out b hb) HB1.out.size)) (hB2.out.block r HRL.out)
      have HRL2 : Hid (r < w2.heap.size) := HR2.out.lt
      have HS12 : Hid (w1.heap.size ≤ w2.heap.size) := hB2.out.size
      clear hR2 hB2 hLK ht hold hPR hn2 CC hle
      go_wp2_with fail
      refine CP.out.mono ?_
      rintro e w3 ⟨rfl, fq2, hI3, hT3, hG3⟩
      have HB3 : Hid (Below w.heap.size w w3) := Turn.chain HB2.out hT3.out HGE.out HB2.out.size
      have hk1 : ∀ b, mp = some b → w3.heap[b]? = w2.heap[b]? := fun b hb => hT3.out.block b (Nat.lt_of_lt_of_le (HMB.out b hb) HB2.out.size) fun hf => by
        have := HGE.out b hf
        have := HMB.out b hb
        omega
      have hk2 : w3.heap[r]? = w2.heap[r]? := hT3.out.block r HRL2.out fun hf => HF.out r hf rfl
      have HR3 : Hid (RangeI w3 mp r s.ks (elemOf s L) (ls.erase x)) := HR2.out.keep hk1 hk2
      have HLF3 : Hid (leftI mp r w3 < leftI mp r wr) := by
        show _ < _
        rw [leftI_keep hk1 hk2, HLF.out]; exact HM1.out
      have HF3 : Hid (∀ b, fq2 b → b ≠ r) := fun b hb => by
        rcases hG3.out b hb with h1 | h1 | h1
        · exact HF.out b h1
        · have := HRGE.out; have := HRL.out; omega
        · have := HRL2.out; omega
      have HP3 : Hid (Part s (putS t x (s.f x)) (ls.erase x)) := part_next HP.out HX.out HI.out.nodup
      have HK3 : Hid ((putS t x (s.f x)).ks.length + (ls.erase x).length ≤ 900) := by
        have h1 := len_put t x (s.f x)
        have h2 := List.length_erase_of_mem HX.out
        have h3 := List.length_pos_of_mem HX.out
        have h4 := HK.out
        show _ ≤ _
        omega
      clear hT3 hG3 hk1 hk2 CP
      go_wp2_with fail
      go_roundw
      case rel => exact ⟨ls.erase x, fq2, _, HR3, hI3, HF3, HP3, HK3, HB3⟩
      case measure => exact HLF3.out
end
end Go.Proofs.Ytfidamiomnohcaa
