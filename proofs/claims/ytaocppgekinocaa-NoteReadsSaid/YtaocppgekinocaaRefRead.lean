/- The contract of the document's own Read: what Read answers. Conditions: the slice's cells; at most 300 bytes. -/
import Derived.Test.YtaocppgekinocaaRefParse
import Derived.Test.YtaocppgekinocaaRefNote
import Derived.Test.YtaocppgekinocaaRefGet
import Derived.Test.YtaocppgekinocaaNoteRead
set_option linter.unusedVariables false
set_option linter.unusedSimpArgs false
namespace Go.Proofs.Ytaocppgekinocaa
open Go.RowKit

/-- What the document's own Get leaves, in one form. -/
theorem getL_any (A : Option Addr) (n c : Nat) (bs : List Nat) (w : World) (hn : n ≤ 300) (hc : n ≤ c) (hA : Bytes w w.heap.size A n bs) :
    Calls Try.prog 40 #[.slice A n c] w fun e w' => ∃ (y : Int) (A' : Option Addr) (n' c' : Nat) (b : Bool), e = .returned (.tuple #[.int .u64 y, .slice A' n' c', .bool b]) ∧ Hid (y = ((getL bs).1 : Int)) ∧ 0 ≤ y ∧ y ≤ 18446744073709551615 ∧ n' ≤ n ∧ Hid (Own w' w.heap.size A' n' c' (getL bs).2) ∧ Hid (Below w.heap.size w w') := by
  have hle := getL_len bs hA.lt256
  refine (refget_any A n c bs w (by omega) hc hA).mono ?_
  rcases h : Pk.get 0 0 bs with _ | ⟨v, r⟩
  · rintro e w' ⟨rfl, hb⟩
    rw [getL_none h]
    exact ⟨0, none, 0, 0, false, rfl, rfl, by omega, by omega, Nat.zero_le _, Own.none_, hb⟩
  · rintro e w' ⟨y, A', n', c', rfl, hy, h0, h1, hn', ho, hb⟩
    rw [getL_some h] at hle ⊢
    refine ⟨y, A', n', c', true, rfl, hy, h0, h1, ?_, ho, hb⟩
    rw [← ho.out.len, ← hA.len]; exact hle
/-- All of it lies at block lo or behind. -/
def High (lo : Nat) (A : Option Addr) : Prop := ∀ ad, A = some ad → lo ≤ ad.block
theorem Own.high {w : World} {base n c : Nat} {A : Option Addr} {bs : List Nat} (h : Own w base A n c bs) : High base A := fun ad e => (h.row.lt ad.block (by rw [e]; rfl)).1
theorem High.rest {lo k c : Nat} {A : Option Addr} (h : High lo A) : High lo (if c = k then A else A.map (·.add (k * 1))) := by
  split
  · exact h
  · intro ad e
    cases A with
    | none => cases e
    | some a =>
      have e : a.add (k * 1) = ad := Option.some.inj e
      rw [← e, addr_block]
      exact h a rfl
theorem Bytes.past {W W' : World} {B n lo : Nat} {A : Option Addr} {bs : List Nat} {row : Option Nat} (h : Bytes W B A n bs) (hi : High lo A) (hg : W.grownBy W' row) (hrow : ∀ b, row = some b → b < lo) : Bytes W' W'.heap.size A n bs :=
  ⟨h.len, fun k hk => by
    obtain ⟨ad, e1, e2, e3⟩ := h.lies k hk
    have e4 := hg.cell e3 (by
      rw [addr_block]
      intro e
      have := hrow _ e.symm
      have := hi ad e1
      omega)
    exact ⟨ad, e1, by have := World.block_lt_of_cell? W' _ e4; rwa [addr_block] at this, e4⟩, h.small⟩
theorem ownN_append_one_g {w W : World} {A : Option Addr} {n c : Nat} {vs : List V} (hS : Below w.heap.size w W) (h : OwnN W w.heap.size A n c vs) (v : V) (hv : Wf v) (hn : n + 1 ≤ 8000) :
    ∃ A2 c2 W2, (Builtin.append_ #[22, 22] 22 #[.slice A n c, .slice (some ⟨W.heap.size, 0, none⟩) 1 1]).run Try.prog (W.alloc (.cells #[.bool v.gone, .int .u64 v.addr, .int .i64 v.page, .bool v.dirty, .int .i64 v.seq] 43)) = .ok (.slice A2 (n + 1) c2) W2 ∧ OwnN W2 w.heap.size A2 (n + 1) c2 (vs ++ [v]) ∧ Below w.heap.size w W2 ∧ W.grownBy W2 (Value.slice A n c).ownBlock := by
  obtain ⟨A2, c2, W2, hr, ho, hb, hg⟩ := append_notes_g w (W.alloc (.cells #[.bool v.gone, .int .u64 v.addr, .int .i64 v.page, .bool v.dirty, .int .i64 v.seq] 43)) (since_alloc hS _) _ n vs (h.row.alloc _) (some ⟨W.heap.size, 0, none⟩) 1 1 [v] (notes_new1 W v hv) hn
  exact ⟨A2, c2, W2, hr, ⟨ho, fun u hu => by
    rcases List.mem_append.1 hu with hu | hu
    · exact h.wf u hu
    · rw [List.mem_singleton.1 hu]; exact hv⟩, hb, grownBy_trans (World.grownBy_alloc _ _ _) hg⟩
theorem OwnN.other {w w' : World} {base b n c : Nat} {A : Option Addr} {vs : List V} (h : OwnN w base A n c vs) (hg : w.grownBy w' (some b)) (hn : ∀ k, (Value.slice A n c).ownBlock = some k → k ≠ b) : OwnN w' base A n c vs := by
  refine ⟨h.row.kept hg ?_, h.wf⟩
  cases hb : (Value.slice A n c).ownBlock with
  | none => exact Or.inl rfl
  | some k => exact Or.inr fun e => hn k hb (Option.some.inj e)
theorem layR_two {x : Int} {vs : List V} {k : Nat} (h : layR x vs = .inl k) : k = 2 ∨ k = 7 := by
  unfold layR at h
  split at h
  · split at h
    · cases h
    · injection h with h; omega
  · injection h with h; omega
/-- What the document's own Read leaves. -/
def RefReadsN (w : World) : Option (List V) → Ending → World → Prop
  | none, e, w' => e = .returned (.tuple #[.slice none 0 0, .int .i64 3]) ∧ Hid (Below w.heap.size w w')
  | some vs, e, w' => ∃ (A : Option Addr) (n c : Nat), e = .returned (.tuple #[.slice A n c, .int .i64 0]) ∧ Hid (OwnN w' w.heap.size A n c vs) ∧ Hid (Below w.heap.size w w')
set_option maxRecDepth 20000 in
set_option maxHeartbeats 8000000 in
theorem refread_any (A : Option Addr) (n c : Nat) (bs : List Nat) (w : World) (hn : n ≤ 300) (hc : n ≤ c) (hA : Bytes w w.heap.size A n bs) :
    Calls Try.prog 24 #[.slice A n c] w (RefReadsN w (readR bs)) := by
  have HA := Lib.hid hA
  have HC := Lib.hid hc
  have HBL := Lib.hid hA.len
  have H256 := Lib.hid hA.lt256
  clear hA
  go_enter Try.func24, Try.ntmps24
  go_wp2_with fail
  refine (getL_any A n c bs _ hn hc HA.out).mono ?_
  rintro e W1 ⟨y, A1, n1, c1, b1, rfl, HY, hy0, hy1, hn1, HO1, hb1⟩
  have B1 := Lib.hid HO1.out.bytes
  have D1 : Hid (n1 ≤ c1) := HO1.out.cap
  have P1 : Hid (lenN (manyL bs) (getL bs).2 = (lenN (manyL bs - 0) (getL bs).2).map fun (vs, x) => ([] ++ vs, x)) := by
    show _ = _
    simp
  go_wp2_with fail
  go_loopw [5, 7, 8] (fun t5 t7 t8 wr => ∃ (i : Nat) (x : Int) (B : Option Addr) (m d : Nat) (rest : List Nat) (A3 : Option Addr) (k3 c3 : Nat) (us : List V), t8 = .int .u64 x ∧ 0 ≤ x ∧ x ≤ 256 ∧ Hid (x = (i : Int)) ∧ t5 = .slice B m d ∧ m ≤ 300 ∧ t7 = .slice A3 k3 c3 ∧ Hid (m ≤ d) ∧ Hid (Bytes wr wr.heap.size B m rest) ∧ Hid (OwnN wr w.heap.size A3 k3 c3 us) ∧ Hid (Below w.heap.size w wr) ∧ Hid (lenN (manyL bs) (getL bs).2 = (lenN (manyL bs - i) rest).map fun (vs, x) => (us ++ vs, x)) ∧ Hid (k3 * 3 + m ≤ 300)) (fun _ _ t8 _ => (256 - intOf t8).toNat)
  case atStart => exact ⟨0, 0, A1, n1, c1, (getL bs).2, none, 0, 0, [], rfl, by omega, by omega, rfl, rfl, by omega, rfl, D1, B1, OwnN.none_, hb1, P1, by show _ ≤ _; omega⟩
  case round =>
    obtain ⟨i, x, B, m, d, rest, A3, k3, c3, us, rfl, hx0, hx256, HX, rfl, hm, rfl, HD, HBY, HO, HB, HPP, HKM⟩ := hrel
    clear HO1 B1 D1 P1 hb1
    have H2 := Lib.hid HBY.out.lt256
    by_cases hlt : x < y ∧ x < 256
    · obtain ⟨hlt1, hlt2⟩ := hlt
      obtain ⟨j, HJ⟩ : ∃ j, Hid (manyL bs - i = j + 1 ∧ manyL bs - (i + 1) = j) := ⟨manyL bs - (i + 1), by
        have h1 := HX.out
        have h2 := HY.out
        show _ ∧ _
        unfold manyL
        omega⟩
      go_wp2_with fail
      refine (getL_any B m d rest _ hm HD.out HBY.out).mono ?_
      rintro e W2 ⟨y1, A9, n9, c9, b9, rfl, HY1, hy10, hy11, hn9, HO9, hb2⟩
      have S2 := Lib.hid (below_chain HB.out hb2.out)
      have ON2 := Lib.hid (HO.out.since hb2.out)
      clear hb2
      go_wp2_with fail
      refine (getL_any A9 n9 c9 _ _ (by omega) HO9.out.cap HO9.out.bytes).mono ?_
      rintro e W3 ⟨y2, A13, n13, c13, b13, rfl, HY2, hy20, hy21, hn13, HO13, hb3⟩
      have S3 := Lib.hid (below_chain S2.out hb3.out)
      have ON3 := Lib.hid (ON2.out.since hb3.out)
      have L3 : Hid (∀ b, (Value.slice A3 k3 c3).ownBlock = some b → b < W2.heap.size) := ON2.out.block_lt
      have hb23 : Hid (W2.heap.size ≤ W3.heap.size) := hb3.out.size
      have hS2 := S2
      have HREST : Hid (rest.length = m) := HBY.out.len
      clear hb3 S2 ON2 HO9
      rcases hyl : (getL (getL rest).2).2 with _ | ⟨kb, r⟩
      · have h0 : n13 = 0 := by rw [← HO13.out.len, hyl]; rfl
        subst h0
        have HN : Hid (readR bs = none) := readR_bad H256.out (by rw [HPP.out, HJ.out.1, lenN_bad (len1_none hyl)]; rfl)
        go_wp2_with fail
        go_ret2
        rw [HN.out]
        exact ⟨rfl, S3⟩
      · have HYL := Lib.hid hyl
        have hl13 := HO13.out.len
        rw [hyl, List.length_cons] at hl13
        have hpos : 0 < n13 := by omega
        have hz0 : ((n13 : Int) == 0) = false := by simp; omega
        have hz1 : ¬ n13 = 0 := by omega
        obtain ⟨ad, hAD, hblk, hcell⟩ := HO13.out.bytes.at_ hpos
        have hk256 := HO13.out.small 0
        subst hAD
        rw [add_none] at hcell
        rw [hyl] at hcell hk256
        replace hcell : W3.cell? ad = some (.int .u8 ((kb : Nat) : Int)) := hcell
        replace hk256 : kb < 256 := hk256
        obtain ⟨z, HZ⟩ : ∃ z : Int, Hid (z = (kb : Int)) := ⟨_, rfl⟩
        rw [← HZ.out] at hcell
        obtain ⟨g0, hg0⟩ : ∃ g0, (z == 0) = g0 := ⟨_, rfl⟩
        obtain ⟨g2, hg2⟩ : ∃ g2, (z == 2) = g2 := ⟨_, rfl⟩
        obtain ⟨q, HQ⟩ : ∃ q : Int, Hid (wrap64 y2 = q) := ⟨_, rfl⟩
        clear hyl hl13 hk256
        go_wp2_with fail
        go_region
        rw [HQ.out]
        obtain ⟨W4, HW4⟩ : ∃ W4 : World, Hid (W4 = (W3.alloc (.cells #[.bool g0, .int .u64 y1, .int .i64 0, .bool g2, .int .i64 q] 43)).drew) := ⟨_, rfl⟩
        have L4 : Hid (Below W3.heap.size W3 W4) := by rw [HW4.out]; exact Below.drew (later_alloc W3 (.cells #[.bool g0, .int .u64 y1, .int .i64 0, .bool g2, .int .i64 q] 43))
        have N4 : Hid (RowN W4 W3.heap.size ⟨g0, y1, 0, g2, q⟩) := by rw [HW4.out]; exact ⟨(rowN_new W3 ⟨g0, y1, 0, g2, q⟩).row⟩
        have S4 := Lib.hid (below_chain S3.out L4.out)
        have ON4 := Lib.hid (ON3.out.since L4.out)
        have O4 := Lib.hid (HO13.out.since L4.out)
        obtain ⟨g, HGG⟩ : ∃ g : Nat, Hid (g = W3.heap.size) := ⟨_, rfl⟩
        have HG2 : Hid (W2.heap.size ≤ g) := by rw [HGG.out]; exact hb23.out
        rw [← HW4.out]
        rw [← HGG.out] at N4 ⊢
        have hsl : ∀ W : World, (Instr.slice 25 (.slice (some ad) n13 c13) (some (.int .i64 1)) none none).run Try.prog W = .ok (.slice (if c13 = 1 then some ad else (some ad).map (·.add (1 * 1))) (n13 - 1) (c13 - 1)) W := fun W => slice_from (some ad) n13 c13 1 (by omega) W
        obtain ⟨A5, HA5⟩ : ∃ A5 : Option Addr, Hid (A5 = if c13 = 1 then some ad else (some ad).map (·.add (1 * 1))) := ⟨_, rfl⟩
        have B5 : Hid (Bytes W4 W4.heap.size A5 (n13 - 1) r) := by
          rw [HA5.out]
          have := (O4.out.bytes).rest (k := 1) hpos O4.out.cap
          rw [HYL.out] at this
          exact this
        have H5 : Hid (High W2.heap.size A5) := by rw [HA5.out]; exact O4.out.high.rest
        have D5 : Hid (n13 ≤ c13) := O4.out.cap
        rw [← HA5.out] at hsl
        obtain ⟨d0, d1, d2, d3, d4⟩ := N4.out.at_
        dsimp only at d0 d1 d2 d3 d4
        have H2b := Lib.hid (getL_byte _ (getL_byte _ H2.out))
        clear hcell hz0 hz1 HB HO HBY L4
        cases g0
        · have hkb : kb ≠ 0 := fun e => by have := HZ.out; rw [e] at this; rw [this] at hg0; simp at hg0
          have HG2E : Hid (g2 = (kb == 2)) := by
            show _ = _
            rw [← hg2, HZ.out]
            by_cases h2 : kb = 2
            · subst h2; rfl
            · have h3 : (kb == 2) = false := by simpa using h2
              rw [h3]; simp; omega
          have HLEN := Lib.hid (len1_here HYL.out hkb)
          clear hg0 hg2
          go_wp2_with fail
          refine (getL_any A5 (n13 - 1) (c13 - 1) r _ (by omega) (by have := D5.out; omega) B5.out).mono ?_
          rintro e W5 ⟨y3, A17, n17, c17, b17, rfl, HY3, hy30, hy31, hn17, HO17, hb5⟩
          obtain ⟨p3, HP3⟩ : ∃ p3 : Int, Hid (wrap64 y3 = p3) := ⟨_, rfl⟩
          have S5 := Lib.hid (below_chain S4.out hb5.out)
          have N5 := Lib.hid (N4.out.since hb5.out)
          have ON5 := Lib.hid (ON4.out.since hb5.out)
          have G4 : Hid (g < W4.heap.size) := N4.out.lt
          have HWG : Hid (w.heap.size ≤ g) := Nat.le_trans hS2.out.size HG2.out
          have c22 := N5.out.at_.c2
          have f22 := N5.out.free 2
          dsimp only at c22
          have S6 := Lib.hid (S5.out.setCell (p := ⟨g, 2, none⟩) HWG.out (.int .i64 p3))
          have N6 := Lib.hid (N5.out.page p3)
          have ON6 := Lib.hid (ON5.out.other (setCell_else W5 ⟨g, 2, none⟩ (.int .i64 p3)) (fun k hk e => by have := L3.out k hk; have := HG2.out; simp at e; omega))
          have B6 := Lib.hid (HO17.out.bytes.past HO17.out.high (setCell_else W5 ⟨g, 2, none⟩ (.int .i64 p3)) (fun b hb => by rw [← Option.some.inj hb]; exact G4.out))
          obtain ⟨x0, x1, x2, x3, x4⟩ := N6.out.at_
          dsimp only at x0 x1 x2 x3 x4
          have HVE : Hid ((⟨false, y1, p3, g2, q⟩ : V) = hereV (getL rest).1 (getL (getL rest).2).1 kb (getL r).1) := by
            show _ = _
            rw [HY1.out, ← HQ.out, HY2.out, ← HP3.out, HY3.out, HG2E.out, wrap64_eq, wrap64_eq]; rfl
          obtain ⟨hwv, hlv, _⟩ := len1_some H2.out HLEN.out
          rw [← HVE.out] at hwv
          obtain ⟨A7, c7, W7, hr, ho7, hb7, hg7⟩ := ownN_append_one_g S6.out ON6.out ⟨false, y1, p3, g2, q⟩ hwv (by have := HKM.out; omega)
          rw [show (W5.setCell ⟨g, 2, none⟩ (.int .i64 p3)).heap.size = W5.heap.size by simp] at hr
          have R := Lib.hid hr
          have O7 := Lib.hid ho7
          have S7 := Lib.hid hb7
          have B7 := Lib.hid (B6.out.past HO17.out.high hg7 (fun b hb => by have h1 := L3.out b hb; have h2 := HG2.out; have h3 := G4.out; omega))
          have HPP2 : Hid (lenN (manyL bs) (getL bs).2 = (lenN (manyL bs - (i + 1)) (getL r).2).map fun (vs, x) => ((us ++ [(⟨false, y1, p3, g2, q⟩ : V)]) ++ vs, x)) := by
            show _ = _
            rw [HPP.out, HJ.out.1, HJ.out.2, lenN_on HLEN.out, Option.map_map, HVE.out]
            congr 1
            funext p
            simp [List.append_assoc]
          have HK7 : Hid ((k3 + 1) * 3 + n17 ≤ 300) := by
            show _ ≤ _
            have h1 := HKM.out
            rw [← HO17.out.len]
            have h2 : (getL r).2.length + 3 ≤ rest.length := hlv
            rw [HREST.out] at h2
            omega
          have D7 : Hid (n17 ≤ c17) := HO17.out.cap
          clear hr ho7 hb7 hg7 hwv hlv d0 d1 d2 d3 d4
          go_wp2_with (first | (at_builtin; refine wpList_append_run rfl (.tmp 80) (.tmp 82) 22 rfl rfl rfl R.out ?_) | (simp only [HP3.out]))
          go_roundw
          case rel =>
            refine ⟨i + 1, x + 1, A17, n17, c17, (getL r).2, A7, k3 + 1, c7, us ++ [⟨false, y1, p3, g2, q⟩], ?_, ?_, ?_, ?_, ?_, ?_, ?_, ?_, ?_, ?_, ?_, ?_, ?_⟩
            · go_num
            · omega
            · omega
            · show _ = _; have := HX.out; omega
            · rfl
            · omega
            · rfl
            · exact D7
            · exact B7
            · exact O7
            · exact S7
            · exact HPP2
            · exact HK7
          case measure => simp [intOf]; omega
        · have hz : z = 0 := by simpa using hg0
          have hkb : kb = 0 := by have := HZ.out; omega
          subst hkb
          have HG2E : Hid (g2 = false) := by show _ = _; rw [← hg2, hz]; rfl
          have HLEN := Lib.hid (len1_gone HYL.out)
          have HVE : Hid ((⟨true, y1, 0, g2, q⟩ : V) = goneV (getL rest).1 (getL (getL rest).2).1) := by
            show _ = _
            rw [HY1.out, ← HQ.out, HY2.out, HG2E.out, wrap64_eq]; rfl
          obtain ⟨hwv, hlv, _⟩ := len1_some H2.out HLEN.out
          rw [← HVE.out] at hwv
          obtain ⟨A7, c7, W7, hr, ho7, hb7, hg7⟩ := ownN_append_one_g S4.out ON4.out ⟨true, y1, 0, g2, q⟩ hwv (by have := HKM.out; omega)
          have R := Lib.hid hr
          have O7 := Lib.hid ho7
          have S7 := Lib.hid hb7
          have B7 := Lib.hid (B5.out.past H5.out hg7 L3.out)
          have HPP2 : Hid (lenN (manyL bs) (getL bs).2 = (lenN (manyL bs - (i + 1)) r).map fun (vs, x) => ((us ++ [(⟨true, y1, 0, g2, q⟩ : V)]) ++ vs, x)) := by
            show _ = _
            rw [HPP.out, HJ.out.1, HJ.out.2, lenN_on HLEN.out, Option.map_map, HVE.out]
            congr 1
            funext p
            simp [List.append_assoc]
          have HK7 : Hid ((k3 + 1) * 3 + (n13 - 1) ≤ 300) := by
            show _ ≤ _
            have h1 := HKM.out
            rw [← B5.out.len]
            have h2 : r.length + 3 ≤ rest.length := hlv
            rw [HREST.out] at h2
            omega
          have D7 : Hid (n13 - 1 ≤ c13 - 1) := by have := D5.out; show _ ≤ _; omega
          clear hr ho7 hb7 hg7 hwv hlv hg0 hg2 hz
          go_wp2_with (at_builtin; refine wpList_append_run rfl (.tmp 80) (.tmp 82) 22 rfl rfl rfl R.out ?_)
          go_roundw
          case rel =>
            refine ⟨i + 1, x + 1, A5, n13 - 1, c13 - 1, r, A7, k3 + 1, c7, us ++ [⟨true, y1, 0, g2, q⟩], ?_, ?_, ?_, ?_, ?_, ?_, ?_, ?_, ?_, ?_, ?_, ?_, ?_⟩
            · go_num
            · omega
            · omega
            · show _ = _; have := HX.out; omega
            · rfl
            · omega
            · rfl
            · exact D7
            · exact B7
            · exact O7
            · exact S7
            · exact HPP2
            · exact HK7
          case measure => simp [intOf]; omega
    · have HPS : Hid (lenN (manyL bs) (getL bs).2 = some (us, rest)) := by
        show _ = _
        have h1 := HX.out
        have h2 := HY.out
        have h3 : manyL bs - i = 0 := by unfold manyL; omega
        rw [HPP.out, h3, lenN_zero]
        simp
      have hk3 : k3 ≤ 100 := by have := HKM.out; omega
      have NS := Lib.hid HO.out.notes
      have HYES := Lib.hid (readR_lenient H256.out HPS.out).1
      have HNO := Lib.hid (readR_lenient H256.out HPS.out).2
      rw [HBL.out] at HYES HNO
      have hlt' : ¬ x < y ∨ (x < y ∧ x = 256) := by omega
      clear HPP HKM HBY hlt
      rcases hlt' with hlt | ⟨hlt, hx⟩
      all_goals
        go_wp2_with fail
        refine (reflay_any A3 k3 c3 (n : Int) us _ hk3 NS.out).mono ?_
        rcases hl : layR (n : Int) us with kk | ps
        · rintro e W2 ⟨rfl, hb2⟩
          have S2 := Lib.hid (below_chain HB.out hb2.out)
          have HR : Hid (readR bs = none) := HNO.out (by rw [hl]; simp)
          have hkk := layR_two hl
          clear hl
          rcases hkk with rfl | rfl
          all_goals
            go_wp2_with fail
            go_ret2
            rw [HR.out]
            exact ⟨rfl, S2⟩
        · rintro e W2 ⟨A19, n19, c19, rfl, HO19, hb2⟩
          have S2 := Lib.hid (below_chain HB.out hb2.out)
          have O2 := Lib.hid (HO.out.since hb2.out)
          have h1 := conv_bytes HO19.out.bytes c19
          have h2 := conv_bytes (HA.out.since S2.out) c
          have HSM := Lib.hid HO19.out.bytes.lt256
          obtain ⟨s1, H1⟩ : ∃ s, Hid (s = strOf ps) := ⟨_, rfl⟩
          obtain ⟨s2, H2s⟩ : ∃ s, Hid (s = strOf bs) := ⟨_, rfl⟩
          rw [← H1.out] at h1
          rw [← H2s.out] at h2
          by_cases heq : ps = bs
          · have HR : Hid (readR bs = some us) := HYES.out (by rw [hl, heq])
            have hne : (s1.toList == s2.toList) = true := by
              have h : (s1 != s2) = false := by rw [H1.out, H2s.out, heq]; exact strOf_same _
              rw [← beq_toListBytes]
              simpa [bne] using h
            clear hl heq
            go_wp2_with fail
            go_ret2
            rw [HR.out]
            exact ⟨A3, k3, c3, rfl, O2, S2⟩
          · have HR : Hid (readR bs = none) := HNO.out (by rw [hl]; intro e; injection e with e; exact heq e)
            have hne : (s1.toList == s2.toList) = false := by
              have h : (s1 != s2) = true := by rw [H1.out, H2s.out]; exact strOf_other HSM.out H256.out heq
              rw [← beq_toListBytes]
              simpa [bne] using h
            clear hl heq
            go_wp2_with fail
            go_ret2
            rw [HR.out]
            exact ⟨rfl, S2⟩
end Go.Proofs.Ytaocppgekinocaa
