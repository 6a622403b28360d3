/- The landed disk: New. Conditions: the list's cells. -/
import Derived.Test.YtfhfjfgajbgdcaaDiskWrite
set_option linter.unusedVariables false
set_option linter.unusedSimpArgs false
namespace Go.Proofs.Ytfhfjfgajbgdcaa
open Go.RowKit

theorem sec_made : ∃ i z, Try.prog.info? secK.T = some i ∧ i.zero = some z ∧ i.size = secK.k ∧ i.bytes ≤ 1000 ∧ z.cells = (secK.cv secK.dflt).toArray := by
  obtain ⟨i0, hi, hz0, hz1, hz2⟩ := info_parts infoT
  exact ⟨i0, _, hi, hz0, hz1, by rw [hz2]; omega, rfl⟩
section
variable {w w' : World} {base g z nW k : Nat} {F La : List (List Nat)} {B : List Bool} {L : DL}
/-- s.broken = b -/
theorem DCore.putB (h : DCore w base g z F La B L nW) (hk : k < F.length) (b : Bool) :
    DCore (w.setCell ⟨(L.ab.add (k * 3)).block, (L.ab.add (k * 3)).off + 2, none⟩ (.bool b)) base g z F La (B.set k b) { L with vS := L.vS.set k { L.sec k with b := b } } nW := by
  obtain ⟨cur, hc⟩ := h.typedS
  rw [h.place k]
  have hK : KeepN w (w.setCell ⟨L.ab.block, k * 3 + 2, none⟩ (.bool b)) 63 := keepN_setCell hc
  have hsr : secK.Row (w.setCell ⟨L.ab.block, k * 3 + 2, none⟩ (.bool b)) base (some L.ab) F.length L.cS (L.vS.set k { L.sec k with b := b }) := by
    have hr := h.sr
    rw [h.ab] at hr ⊢
    exact hr.put (i := k) (r := 2) hk (by decide) (.bool b) { L.sec k with b := b } rfl trivial
  have hsec : ∀ i, (L.vS.set k { L.sec k with b := b }).getD i TV.zero = if i = k then { L.sec k with b := b } else L.sec i := fun i => getD_setN _ _ _ _ _ (by rw [h.vlen]; exact hk)
  refine ⟨h.base_le, (hK _ _ _ h.row (by decide)).trans h.row, hsr, fun i hi => ?_, fun i hi => ?_, fun i hi => ?_, h.lenL, by rw [List.length_set]; exact h.lenB, h.few, h.sizes, h.sizel⟩
  · show Own _ base ((L.vS.set k { L.sec k with b := b }).getD i TV.zero).f.a ((L.vS.set k { L.sec k with b := b }).getD i TV.zero).f.n ((L.vS.set k { L.sec k with b := b }).getD i TV.zero).f.c (F.getD i [])
    rw [hsec]
    by_cases e : i = k
    · rw [if_pos e, e]; exact (h.fb k hk).keepN hK (by decide)
    · rw [if_neg e]; exact (h.fb i hi).keepN hK (by decide)
  · show Own _ base ((L.vS.set k { L.sec k with b := b }).getD i TV.zero).l.a ((L.vS.set k { L.sec k with b := b }).getD i TV.zero).l.n ((L.vS.set k { L.sec k with b := b }).getD i TV.zero).l.c (La.getD i [])
    rw [hsec]
    by_cases e : i = k
    · rw [if_pos e, e]; exact (h.lb k hk).keepN hK (by decide)
    · rw [if_neg e]; exact (h.lb i hi).keepN hK (by decide)
  · show ((L.vS.set k { L.sec k with b := b }).getD i TV.zero).b = (B.set k b).getD i false
    rw [hsec, getD_setN _ _ _ _ _ (by rw [h.lenB]; exact hk)]
    by_cases e : i = k
    · rw [if_pos e, if_pos e]
    · rw [if_neg e, if_neg e]; exact h.bb i hi
/-- A sector is written whole. -/
theorem DCore.putS (h : DCore w base g z F La B L nW) (hk : k < F.length) {v : SV} {bs : List Nat} (ho : Own w base v.a v.n v.c bs) (hz : bs.length ≤ 256) (hB : B.getD k false = false) :
    ∃ vS, DCore (((w.setCell (L.ab.add (k * 3)) (.slice v.a v.n v.c)).setCell ⟨(L.ab.add (k * 3)).block, (L.ab.add (k * 3)).off + 1, none⟩ (.slice v.a v.n v.c)).setCell ⟨(L.ab.add (k * 3)).block, (L.ab.add (k * 3)).off + 2, none⟩ (.bool false)) base g z (F.set k bs) (La.set k bs) B { L with vS := vS } nW ∧
      Own (((w.setCell (L.ab.add (k * 3)) (.slice v.a v.n v.c)).setCell ⟨(L.ab.add (k * 3)).block, (L.ab.add (k * 3)).off + 1, none⟩ (.slice v.a v.n v.c)).setCell ⟨(L.ab.add (k * 3)).block, (L.ab.add (k * 3)).off + 2, none⟩ (.bool false)) base v.a v.n v.c bs ∧ (∃ u0 u1 u2, w.cell? (L.ab.add (k * 3)) = some u0 ∧ (w.setCell (L.ab.add (k * 3)) (.slice v.a v.n v.c)).cell? ⟨(L.ab.add (k * 3)).block, (L.ab.add (k * 3)).off + 1, none⟩ = some u1 ∧ ((w.setCell (L.ab.add (k * 3)) (.slice v.a v.n v.c)).setCell ⟨(L.ab.add (k * 3)).block, (L.ab.add (k * 3)).off + 1, none⟩ (.slice v.a v.n v.c)).cell? ⟨(L.ab.add (k * 3)).block, (L.ab.add (k * 3)).off + 2, none⟩ = some u2) ∧ w.frozen? (L.ab.add (k * 3)) = false ∧ (w.setCell (L.ab.add (k * 3)) (.slice v.a v.n v.c)).frozen? ⟨(L.ab.add (k * 3)).block, (L.ab.add (k * 3)).off + 1, none⟩ = false ∧ ((w.setCell (L.ab.add (k * 3)) (.slice v.a v.n v.c)).setCell ⟨(L.ab.add (k * 3)).block, (L.ab.add (k * 3)).off + 1, none⟩ (.slice v.a v.n v.c)).frozen? ⟨(L.ab.add (k * 3)).block, (L.ab.add (k * 3)).off + 2, none⟩ = false := by
  have hpl := h.place k
  have hpb : (L.ab.add (k * 3)).block = L.ab.block := by rw [hpl]
  have h1 := h.putF hk ho hz
  have hk1 : k < (F.set k bs).length := by rw [List.length_set]; exact hk
  have o1 : Own (w.setCell (L.ab.add (k * 3)) (.slice v.a v.n v.c)) base v.a v.n v.c bs := by
    obtain ⟨cur, hc⟩ := h.typedS
    rw [hpl]
    exact ho.keepN (keepN_setCell hc) (by decide)
  have h2 := h1.putL hk1 o1 hz
  have o2 : Own ((w.setCell (L.ab.add (k * 3)) (.slice v.a v.n v.c)).setCell ⟨(L.ab.add (k * 3)).block, (L.ab.add (k * 3)).off + 1, none⟩ (.slice v.a v.n v.c)) base v.a v.n v.c bs := by
    obtain ⟨cur, hc⟩ := h1.typedS
    exact o1.keepN (T0 := 63) (keepN_setCell (by rw [hpb]; exact hc)) (by decide)
  have h3 := h2.putB hk1 false
  have o3 := o2.keepN (T0 := 63) (w' := ((w.setCell (L.ab.add (k * 3)) (.slice v.a v.n v.c)).setCell ⟨(L.ab.add (k * 3)).block, (L.ab.add (k * 3)).off + 1, none⟩ (.slice v.a v.n v.c)).setCell ⟨(L.ab.add (k * 3)).block, (L.ab.add (k * 3)).off + 2, none⟩ (.bool false)) (by
    obtain ⟨cur, hc⟩ := h2.typedS
    dsimp only at hc
    rw [← hpb] at hc
    exact keepN_setCell hc) (by decide)
  have hB2 : B.set k false = B := by
    apply List.ext_getElem?
    intro j
    rw [List.getElem?_set]
    by_cases e : k = j
    · subst e
      have hl : k < B.length := by rw [h.lenB]; exact hk
      rw [List.getD_eq_getElem?_getD, List.getElem?_eq_getElem hl] at hB
      simp [hl]
      exact hB
    · simp [e]
  rw [hB2] at h3
  exact ⟨_, h3, o3, ⟨_, _, _, (h.sector hk).c0, (h1.sector hk1).c1, (h2.sector hk1).c2⟩, h.free0 k, h1.free3 k 1, h2.free3 k 2⟩
end
/-- So many sectors are of zeros, the others of nothing yet. -/
def fz (n : Nat) (zs : List Nat) : Nat → List (List Nat)
  | 0 => List.replicate n []
  | i + 1 => (fz n zs i).set i zs
theorem fz_len (n : Nat) (zs : List Nat) : ∀ i, (fz n zs i).length = n
  | 0 => List.length_replicate ..
  | i + 1 => by unfold fz; rw [List.length_set]; exact fz_len n zs i
theorem fz_at (n : Nat) (zs : List Nat) : ∀ i j, j < n → (fz n zs i).getD j [] = if j < i then zs else []
  | 0, j, h => by
    rw [if_neg (Nat.not_lt_zero j)]
    show (List.replicate n []).getD j [] = []
    rw [List.getD_eq_getElem?_getD, List.getElem?_replicate]; split <;> rfl
  | i + 1, j, h => by
    unfold fz
    rw [getD_setN' _ _ _ _, fz_at n zs i j h, fz_len]
    by_cases e : j = i
    · rw [if_pos ⟨e, h⟩, if_pos (by omega)]
    · rw [if_neg (fun x => e x.1)]
      by_cases h2 : j < i
      · rw [if_pos h2, if_pos (by omega)]
      · rw [if_neg h2, if_neg (by omega)]
theorem fz_all (n : Nat) (zs : List Nat) : fz n zs n = List.replicate n zs := by
  apply List.ext_getElem
  · rw [fz_len, List.length_replicate]
  · intro j h1 h2
    rw [fz_len] at h1
    have := fz_at n zs n j h1
    rw [if_pos h1, List.getD_eq_getElem?_getD, List.getElem?_eq_getElem (by rw [fz_len]; exact h1)] at this
    rw [List.getElem_replicate]
    exact this
/-- What New leaves. -/
def NewD (w : World) (o : Option RD) (e : Ending) (w' : World) : Prop := match o with
  | none => e = .returned (.pointer none) ∧ Below w.heap.size w w'
  | some s => ∃ g fp, e = .returned (.pointer (some ⟨g, 0, none⟩)) ∧ DiskAt w' w.heap.size fp g s ∧ Below w.heap.size w w'
theorem disk_new {w w' : World} {g : Nat} {s : RD} {L : DL} {La : List (List Nat)} (h : DRep w' w.heap.size g s L La) : DiskAt w' w.heap.size (fun b => w.heap.size ≤ b ∧ b < w'.heap.size) g s := by
  have h1 := h.in_lt
  have h2 := h.in_ge
  exact ⟨⟨L, La, h, ⟨h2.s, h1.s⟩, fun v hv b hb => ⟨h2.f v hv b hb, h1.f v hv b hb⟩, fun v hv b hb => ⟨h2.l v hv b hb, h1.l v hv b hb⟩, fun b hb => ⟨h2.w b hb, h1.w b hb⟩, fun v hv b hb => ⟨h2.vw v hv b hb, h1.vw v hv b hb⟩⟩, ⟨h.core.base_le, h.core.glt⟩, fun b hb => hb.1, fun b hb => hb.2⟩
set_option maxHeartbeats 16000000 in
set_option maxRecDepth 20000 in
theorem dnew_any (x y : Int) (AX : Option Addr) (nx cx : Nat) (xs : List Int) (w : World) (hnx : nx ≤ 9223372036854775807) (hX : intK.Lie w w.heap.size AX nx xs) :
    Calls Try.prog 8 #[.int .i64 x, .int .i64 y, .slice AX nx cx] w (NewD w (if mayD x y = true then some (freshD x.toNat y.toNat xs) else none)) := by
  have HX := Lib.hid hX
  have HXL : Hid (xs.length = nx) := hX.len
  clear hX
  by_cases h1 : x < 1
  · rw [if_neg (show ¬ mayD x y = true by unfold mayD; simp; omega)]
    go_enter Try.func8, Try.ntmps8
    go_wp2_with fail
    go_ret
    exact ⟨rfl, Below.refl _ _⟩
  by_cases h2 : 256 < x
  · rw [if_neg (show ¬ mayD x y = true by unfold mayD; simp; omega)]
    go_enter Try.func8, Try.ntmps8
    go_wp2_with fail
    go_ret
    exact ⟨rfl, Below.refl _ _⟩
  by_cases h3 : y < 128
  · rw [if_neg (show ¬ mayD x y = true by unfold mayD; simp; omega)]
    go_enter Try.func8, Try.ntmps8
    go_wp2_with fail
    go_ret
    exact ⟨rfl, Below.refl _ _⟩
  by_cases h4 : 256 < y
  · rw [if_neg (show ¬ mayD x y = true by unfold mayD; simp; omega)]
    go_enter Try.func8, Try.ntmps8
    go_wp2_with fail
    go_ret
    exact ⟨rfl, Below.refl _ _⟩
  rw [if_pos (show mayD x y = true from decide_eq_true (by omega))]
  obtain ⟨n, rfl⟩ : ∃ n : Nat, x = (n : Int) := ⟨x.toNat, by omega⟩
  obtain ⟨z, rfl⟩ : ∃ z : Nat, y = (z : Int) := ⟨y.toNat, by omega⟩
  rw [Int.toNat_natCast, Int.toNat_natCast]
  have hn : n ≤ 256 := by omega
  have hz : z ≤ 256 := by omega
  have hn1 : 1 ≤ n := by omega
  obtain ⟨W1, hr1, hb1, ho1⟩ := Kind.made secK sec_made n (n : Int) rfl (by omega) w w.heap.size (Nat.le_refl _)
  have hr1' : (Instr.makeSlice 58 (.int .i64 (n : Int)) (.int .i64 (n : Int))).run Try.prog w = .ok (.slice (some ⟨w.heap.size, 0, none⟩) n n) W1 := hr1
  obtain ⟨W2, HW2⟩ : ∃ W2, Hid (W2 = W1.alloc (.cells #[.int .i64 (z : Int), .slice (some ⟨w.heap.size, 0, none⟩) n n, .slice none 0 0] 61)) := ⟨_, rfl⟩
  have L2 : Later W1 W2 := by rw [HW2.out]; exact later_alloc _ _
  obtain ⟨W3, hr3, hb3, ho3⟩ := made_any z (z : Int) rfl (by omega) W2
  have hr3' := hr3
  rw [HW2.out] at hr3'
  have hs2 : W2.heap.size = W1.heap.size + 1 := by rw [HW2.out]; simp
  rw [show (W1.alloc (.cells #[.int .i64 (z : Int), .slice (some ⟨w.heap.size, 0, none⟩) n n, .slice none 0 0] 61)).heap.size = W1.heap.size + 1 by simp] at hr3'
  have C2 : DCore W2 w.heap.size W1.heap.size z (fz n (List.replicate z 0) 0) (fz n (List.replicate z 0) 0) (List.replicate n false) ⟨⟨w.heap.size, 0, none⟩, n, List.replicate n TV.zero, none, 0, []⟩ 0 := by
    have hv : ∀ k, (List.replicate n TV.zero).getD k TV.zero = TV.zero := fun k => by
      rw [List.getD_eq_getElem?_getD, List.getElem?_replicate]; split <;> rfl
    have hf : ∀ k, (fz n (List.replicate z 0) 0).getD k [] = [] := fun k => by
      show (List.replicate n []).getD k [] = []
      rw [List.getD_eq_getElem?_getD, List.getElem?_replicate]; split <;> rfl
    refine ⟨hb1.size, ?_, ?_, fun k hk => ?_, fun k hk => ?_, fun k hk => ?_, rfl, by rw [fz_len, List.length_replicate], by rw [fz_len]; exact hn, fun k => by rw [hf]; exact Nat.zero_le _, fun k => by rw [hf]; exact Nat.zero_le _⟩
    · rw [fz_len, HW2.out]; exact heap_alloc_new W1 _
    · rw [fz_len]; exact ho1.since L2
    · show Own W2 w.heap.size ((List.replicate n TV.zero).getD k TV.zero).f.a ((List.replicate n TV.zero).getD k TV.zero).f.n ((List.replicate n TV.zero).getD k TV.zero).f.c _
      rw [hv, hf]; exact Own.none_
    · show Own W2 w.heap.size ((List.replicate n TV.zero).getD k TV.zero).l.a ((List.replicate n TV.zero).getD k TV.zero).l.n ((List.replicate n TV.zero).getD k TV.zero).l.c _
      rw [hv, hf]; exact Own.none_
    · show ((List.replicate n TV.zero).getD k TV.zero).b = (List.replicate n false).getD k false
      rw [hv, List.getD_eq_getElem?_getD, List.getElem?_replicate]; split <;> rfl
  have C3 := Lib.hid (C2.since hb3)
  have B3 := Lib.hid (below_chain (below_chain hb1 L2) hb3)
  have O3 := Lib.hid (ho3.elder (Nat.le_trans hb1.size L2.size))
  obtain ⟨g, HG⟩ : ∃ g : Nat, Hid (W1.heap.size = g) := ⟨_, rfl⟩
  obtain ⟨zs, HZS⟩ : ∃ zs : List Nat, Hid (List.replicate z 0 = zs) := ⟨_, rfl⟩
  obtain ⟨fs, HFS⟩ : ∃ fs : List Bool, Hid (List.replicate n false = fs) := ⟨_, rfl⟩
  obtain ⟨bz, HBZ⟩ : ∃ bz : Nat, Hid (W2.heap.size = bz) := ⟨_, rfl⟩
  have hzl : zs.length = z := by rw [← HZS.out, List.length_replicate]
  have HZL : Hid (zs.length ≤ 256) := by show _ ≤ _; omega
  have HFF : Hid (∀ k, fs.getD k false = false) := fun k => by rw [← HFS.out, List.getD_eq_getElem?_getD, List.getElem?_replicate]; split <;> rfl
  have hp1 := C3.out.c1
  have hg1 : g = W1.heap.size := HG.out.symm
  rw [HG.out, HZS.out, HFS.out] at C3
  rw [HBZ.out, HZS.out] at O3
  have hp1' : W3.cell? ⟨W1.heap.size, 1, none⟩ = some (.slice (some ⟨w.heap.size, 0, none⟩) n n) := by rw [hp1, fz_len]
  obtain ⟨L0, HL0⟩ : ∃ L0 : DL, Hid ((⟨⟨w.heap.size, 0, none⟩, n, List.replicate n TV.zero, none, 0, []⟩ : DL) = L0) := ⟨_, rfl⟩
  have HLA : Hid (L0.ab = ⟨w.heap.size, 0, none⟩ ∧ L0.cS = n ∧ L0.AW = none ∧ L0.cW = 0 ∧ L0.vW = []) := by rw [← HL0.out]; exact ⟨rfl, rfl, rfl, rfl, rfl⟩
  rw [HL0.out] at C3
  clear hr1 hb1 ho1 L2 hr3 hb3 ho3 C2 hp1 hg1 hzl
  rw [show W2.heap.size = W1.heap.size + 1 from hs2] at HBZ
  clear hs2
  go_enter Try.func8, Try.ntmps8
  go_wp2_with fail
  rw [HBZ.out, HG.out]
  obtain ⟨aS, HAS⟩ : ∃ aS : Addr, Hid (L0.ab = aS) := ⟨_, rfl⟩
  rw [show (⟨w.heap.size, 0, none⟩ : Addr) = aS from HLA.out.1.symm.trans HAS.out]
  have C3' : Hid (DCore W3 w.heap.size g z (fz n zs 0) (fz n zs 0) fs { L0 with vS := L0.vS } 0) := C3.out
  have O3' : Hid (Own W3 w.heap.size (some ⟨bz, 0, none⟩) z z zs) := O3.out
  clear C3 O3 hp1' hr1' hr3' HW2
  go_loopw [38] (fun t38 wr => ∃ (i : Nat) (vS : List TV), t38 = .int .i64 i ∧ i ≤ n ∧ Hid (DCore wr w.heap.size g z (fz n zs i) (fz n zs i) fs { L0 with vS := vS } 0) ∧ Hid (Own wr w.heap.size (some ⟨bz, 0, none⟩) z z zs) ∧ Hid (Below w.heap.size w wr)) (fun t38 _ => n - (intOf t38).toNat)
  case atStart => exact ⟨0, _, rfl, Nat.zero_le _, C3', O3', B3⟩
  clear C3' O3' B3
  case round =>
    obtain ⟨Wa, rfl⟩ : ∃ Wa, Wa = wr := ⟨_, rfl⟩
    obtain ⟨i, vS, rfl, hi, HC, HO, HB⟩ := hrel
    have i0 : (0 : Int) ≤ (i : Int) := by omega
    by_cases hlt : i < n
    · have i1 : (i : Int) < (n : Int) := by omega
      have hk : i < (fz n zs i).length := by rw [fz_len]; exact hlt
      have d1 := HC.out.c1
      rw [fz_len] at d1
      obtain ⟨vS2, hP, hO, ⟨u0, u1, u2, h0, h1, h2⟩, f0, f1, f2⟩ := HC.out.putS hk (v := ⟨some ⟨bz, 0, none⟩, z, z⟩) HO.out HZL.out (HFF.out i)
      have hpl := HC.out.place i
      dsimp only at d1 h0 h1 h2 f0 f1 f2 hP hO hpl
      have hge : w.heap.size ≤ (L0.ab.add (i * 3)).block := by
        rw [hpl]
        exact Row.blk_ge HC.out.sr _ (by simp [blk])
      have hB2 := ((HB.out.setCell (p := L0.ab.add (i * 3)) hge (.slice (some ⟨bz, 0, none⟩) z z)).setCell (p := ⟨(L0.ab.add (i * 3)).block, (L0.ab.add (i * 3)).off + 1, none⟩) hge (.slice (some ⟨bz, 0, none⟩) z z)).setCell (p := ⟨(L0.ab.add (i * 3)).block, (L0.ab.add (i * 3)).off + 2, none⟩) hge (.bool false)
      rw [HAS.out] at d1 h0 h1 h2 f0 f1 f2 hP hO hB2 ⊢
      rw [HLA.out.2.1] at d1
      have HP2 := Lib.hid hP
      have HO2 := Lib.hid hO
      have HB2 := Lib.hid hB2
      clear hP hO hB2 hpl hge hk
      go_wp2_with fail
      go_roundw
      case rel => exact ⟨i + 1, vS2, by go_num, by omega, HP2, HO2, HB2⟩
      case measure => simp [intOf]; omega
    · obtain rfl : i = n := by omega
      have hD : DRep Wa w.heap.size g ⟨List.replicate i zs, [], markB i xs 0, z⟩ { L0 with vS := vS } (List.replicate i zs) := by
        have hC := HC.out
        rw [fz_all] at hC
        refine ⟨?_, ?_, fun k hk => rfl, hz⟩
        · show DCore Wa w.heap.size g z (List.replicate i zs) (List.replicate i zs) (markB i xs 0) _ 0
          rw [show markB i xs 0 = fs from HFS.out]; exact hC
        · show DWait Wa w.heap.size _ [] L0.AW L0.cW L0.vW
          rw [HLA.out.2.2.1, HLA.out.2.2.2.1, HLA.out.2.2.2.2]; exact DWait.none_
      have HD0 := Lib.hid hD
      clear hD HC HO HFF HFS
      go_wp2_with fail
      go_loopw [53] (fun t53 wr => ∃ (j : Nat) (vS : List TV), t53 = .int .i64 j ∧ j ≤ nx ∧ Hid (DRep wr w.heap.size g ⟨List.replicate i zs, [], markB i xs j, z⟩ { L0 with vS := vS } (List.replicate i zs)) ∧ Hid (Below w.heap.size w wr)) (fun t53 _ => nx - (intOf t53).toNat)
      case atStart => exact ⟨0, vS, rfl, Nat.zero_le _, HD0, HB⟩
      clear HD0 HB
      case round =>
        obtain ⟨Wb, rfl⟩ : ∃ Wb, Wb = wr := ⟨_, rfl⟩
        obtain ⟨j, vS3, rfl, hj, HD, HB⟩ := hrel
        have j0 : (0 : Int) ≤ (j : Int) := by omega
        by_cases hltj : j < nx
        · have j1 : (j : Int) < (nx : Int) := by omega
          obtain ⟨ad, rfl, hblk, e3⟩ := (HX.out.since HB.out).each j hltj
          have c0 := intAt_of (show intK.At Wb (ad.add (j * 1)) (xs.getD j 0) from e3)
          rw [Nat.mul_one] at c0
          obtain ⟨b, HXB⟩ : ∃ b, Hid (xs.getD j 0 = b) := ⟨_, rfl⟩
          rw [HXB.out] at c0
          have CH := Lib.hid (dhas_any b HD.out)
          have HMK : Hid (markB i xs (j + 1) = if inB i b = true then (markB i xs j).set b.toNat true else markB i xs j) := by
            show _ = _
            rw [markB, HXB.out]
          by_cases hin : 0 ≤ b ∧ b < (i : Int)
          · obtain ⟨q, rfl⟩ : ∃ q : Nat, b = (q : Int) := ⟨b.toNat, by omega⟩
            rw [show hasO ⟨List.replicate i zs, [], markB i xs j, z⟩ (q : Int) = true from decide_eq_true ⟨hin.1, by show _ < (((List.replicate i zs).length : Nat) : Int); rw [List.length_replicate]; exact hin.2⟩] at CH
            rw [if_pos (show inB i (q : Int) = true from decide_eq_true hin), Int.toNat_natCast] at HMK
            have hq : q < (List.replicate i zs).length := by rw [List.length_replicate]; omega
            have q0 : (0 : Int) ≤ (q : Int) := hin.1
            have q1 : (q : Int) < (i : Int) := hin.2
            have d1 := HD.out.core.c1
            dsimp only at d1
            rw [List.length_replicate] at d1
            obtain ⟨v0, v1, v2⟩ := HD.out.core.sector hq
            have f2 := HD.out.core.free3 q 2
            have hP := HD.out.core.putB hq true
            have hpl := HD.out.core.place q
            dsimp only at d1 v2 f2 hP hpl
            have hge : w.heap.size ≤ (L0.ab.add (q * 3)).block := by
              rw [hpl]
              exact Row.blk_ge HD.out.core.sr _ (by simp [blk])
            have HB2 := Lib.hid (HB.out.setCell (p := ⟨(L0.ab.add (q * 3)).block, (L0.ab.add (q * 3)).off + 2, none⟩) hge (.bool true))
            have HP2 : Hid (DRep (Wb.setCell ⟨(L0.ab.add (q * 3)).block, (L0.ab.add (q * 3)).off + 2, none⟩ (.bool true)) w.heap.size g ⟨List.replicate i zs, [], markB i xs (j + 1), z⟩ { L0 with vS := vS3.set q { DL.sec { L0 with vS := vS3 } q with b := true } } (List.replicate i zs)) := by
              refine ⟨?_, ?_, fun k hk => rfl, hz⟩
              · show DCore _ w.heap.size g z (List.replicate i zs) (List.replicate i zs) (markB i xs (j + 1)) _ 0
                rw [HMK.out]; exact hP
              · show DWait _ w.heap.size _ [] L0.AW L0.cW L0.vW
                rw [HLA.out.2.2.1, HLA.out.2.2.2.1, HLA.out.2.2.2.2]; exact DWait.none_
            obtain ⟨x0, HX0⟩ : ∃ x, Hid ((DL.sec { L0 with vS := vS3 } q).b = x) := ⟨_, rfl⟩
            rw [HX0.out] at v2
            rw [HAS.out] at d1 v2 f2 HP2 HB2 ⊢
            rw [HLA.out.2.1] at d1
            clear hP hpl hge hq v0 v1 hin
            go_wp2_with fail
            refine CH.out.mono ?_
            rintro e w' ⟨rfl, rfl⟩
            go_wp2_with fail
            go_roundw
            case rel => exact ⟨j + 1, _, by go_num, by omega, HP2, HB2⟩
            case measure => simp [intOf]; omega
          · rw [show hasO ⟨List.replicate i zs, [], markB i xs j, z⟩ b = false from decide_eq_false fun h => hin ⟨h.1, by have h2 := h.2; dsimp only at h2; rw [List.length_replicate] at h2; exact h2⟩] at CH
            rw [if_neg (show ¬ inB i b = true from fun h => hin (of_decide_eq_true h))] at HMK
            have HD2 : Hid (DRep Wb w.heap.size g ⟨List.replicate i zs, [], markB i xs (j + 1), z⟩ { L0 with vS := vS3 } (List.replicate i zs)) := by rw [HMK.out]; exact HD.out
            clear hin
            go_wp2_with fail
            refine CH.out.mono ?_
            rintro e w' ⟨rfl, rfl⟩
            go_wp2_with fail
            go_roundw
            case rel => exact ⟨j + 1, _, by go_num, by omega, HD2, HB⟩
            case measure => simp [intOf]; omega
        · obtain rfl : j = nx := by omega
          go_wp2_with fail
          go_ret
          refine ⟨g, fun b => w.heap.size ≤ b ∧ b < Wb.heap.size, rfl, ?_, HB.out⟩
          have hE := disk_new HD.out
          unfold freshD
          rw [HXL.out, HZS.out]
          exact hE
end Go.Proofs.Ytfhfjfgajbgdcaa
