/- The contracts of note's notesOf and Read. Conditions: the slice's cells; at most 900 bytes. -/
import Derived.Test.YtaocppgekinocaaNoteRead
set_option linter.unusedVariables false
set_option linter.unusedSimpArgs false
namespace Go.Proofs.Ytaocppgekinocaa
open Go.RowKit

/-- What notesOf leaves. -/
def NotesOfs (w : World) : Option (List V × List Nat) → Ending → World → Prop
  | none, e, w' => e = .returned (.tuple #[.slice none 0 0, .slice none 0 0, .bool false]) ∧ Hid (Below w.heap.size w w')
  | some (vs, r), e, w' => ∃ (A : Option Addr) (n c : Nat) (B : Option Addr) (m d : Nat), e = .returned (.tuple #[.slice A n c, .slice B m d, .bool true]) ∧ m ≤ 900 ∧ Hid (OwnN w' w.heap.size A n c vs) ∧ Hid (m ≤ d) ∧ Hid (Bytes w w.heap.size B m r) ∧ Hid (Below w.heap.size w w')
set_option maxHeartbeats 4000000 in
theorem notesof_any (A : Option Addr) (n c : Nat) (bs : List Nat) (w : World) (hn : n ≤ 900) (hc : n ≤ c) (hA : Bytes w w.heap.size A n bs) : Calls Try.prog 38 #[.slice A n c] w (NotesOfs w (parseP bs)) := by
  have HA := Lib.hid hA
  have H256 := Lib.hid hA.lt256
  clear hA
  go_enter Try.func38, Try.ntmps38
  go_wp2_with fail
  refine (first_any A n c w.heap.size bs _ hn hc (Nat.le_refl _) HA.out).mono ?_
  rcases h0 : Pk.get 0 0 bs with _ | ⟨M, r⟩
  · rintro e W1 ⟨rfl, hb⟩
    have HP : Hid (parseP bs = none) := by show _ = _; unfold parseP; rw [h0]
    go_wp2_with fail
    go_ret3
    rw [HP.out]
    exact ⟨rfl, hb⟩
  · rintro e W1 ⟨y, A1, n1, c1, rfl, HY, hy0, hy1, hn1, HC1, HB1, hb⟩
    have HP : Hid (parseP bs = (parseN (M - 0) r).map fun (vs, x) => ([] ++ vs, x)) := by
      show _ = _
      unfold parseP
      rw [h0]
      simp
    clear h0
    go_wp2_with fail
    go_loopw [0, 7, 20] (fun t0 t7 t20 wr => ∃ (i : Nat) (x : Int) (B : Option Addr) (m d : Nat) (rest : List Nat) (A3 : Option Addr) (k3 c3 : Nat) (us : List V), t20 = .int .u64 x ∧ 0 ≤ x ∧ x ≤ y ∧ Hid (x = (i : Int)) ∧ t0 = .slice B m d ∧ m ≤ 900 ∧ t7 = .slice A3 k3 c3 ∧ Hid (m ≤ d) ∧ Hid (Bytes w w.heap.size B m rest) ∧ Hid (OwnN wr w.heap.size A3 k3 c3 us) ∧ Hid (Below w.heap.size w wr) ∧ Hid (parseP bs = (parseN (M - i) rest).map fun (vs, x) => (us ++ vs, x)) ∧ Hid (k3 * 3 + m ≤ 900)) (fun _ _ t20 _ => (y - intOf t20).toNat)
    case atStart => exact ⟨0, 0, A1, n1, c1, r, none, 0, 0, [], rfl, by omega, hy0, rfl, rfl, hn1, rfl, HC1, HB1, OwnN.none_, hb, HP, by show _ ≤ _; omega⟩
    case round =>
      obtain ⟨i, x, B, m, d, rest, A3, k3, c3, us, rfl, hx0, hxy, HX, rfl, hm, rfl, HD, HBY, HO, HB, HPP, HKM⟩ := hrel
      clear HB1 HP hb HA
      by_cases hlt : x < y
      · obtain ⟨j, HJ⟩ : ∃ j, Hid (M - i = j + 1 ∧ M - (i + 1) = j) := ⟨M - (i + 1), by have h1 := HX.out; have h2 := HY.out; omega, rfl⟩
        have H2 := Lib.hid HBY.out.lt256
        go_wp2_with fail
        refine (noteof_any B m d w.heap.size rest _ hm HD.out HB.out.size (HBY.out.below HB.out)).mono ?_
        rcases h1 : parse1 rest with _ | ⟨v, r4⟩
        · rintro e W2 ⟨v, A4, n4, c4, rfl, hb2⟩
          have HN : Hid (parseP bs = none) := by
            show _ = _
            rw [HPP.out, HJ.out.1, parseN_bad h1]; rfl
          have S2 := Lib.hid (below_chain HB.out hb2.out)
          unfold noteV
          go_wp2_with fail
          go_ret3
          rw [HN.out]
          exact ⟨rfl, since_alloc S2.out _⟩
        · rintro e W2 ⟨A4, n4, c4, rfl, hn4, HC4, HB4, hb2⟩
          have S2 := Lib.hid (below_chain HB.out hb2.out)
          obtain ⟨hwf, hlen, _, _⟩ := parse1_some H2.out h1
          have HWF := Lib.hid hwf
          have HLEN : Hid (n4 + 3 ≤ m) := by show _ ≤ _; rw [← HB4.out.len, ← HBY.out.len]; exact hlen
          have H1 := Lib.hid h1
          have S3 := Lib.hid (since_alloc S2.out (.cells #[.bool v.gone, .int .u64 v.addr, .int .i64 v.page, .bool v.dirty, .int .i64 v.seq] 43))
          have L3 := Lib.hid (later_alloc W2 (.cells #[.bool v.gone, .int .u64 v.addr, .int .i64 v.page, .bool v.dirty, .int .i64 v.seq] 43))
          have N3 := Lib.hid (rowN_new W2 v)
          have O3 := Lib.hid ((HO.out.since hb2.out).since L3.out)
          have B3 := Lib.hid (HB4.out.back HB.out)
          clear hwf hlen h1 hb2 HB4
          unfold noteV
          go_wp2_with fail
          refine (may_any v _).mono ?_
          rcases hok : okB v
          · rintro e W4 ⟨rfl, hb4⟩
            have HN : Hid (parseP bs = none) := by
              show _ = _
              rw [HPP.out, HJ.out.1, parseN_not H1.out hok]; rfl
            have S4 := Lib.hid (below_chain S3.out hb4.out)
            go_wp2_with fail
            go_ret3
            rw [HN.out]
            exact ⟨rfl, S4⟩
          · rintro e W4 ⟨rfl, hb4⟩
            have S4 := Lib.hid (below_chain S3.out hb4.out)
            have N4 := Lib.hid (N3.out.since hb4.out)
            have O4 := Lib.hid (O3.out.since hb4.out)
            have HPP2 : Hid (parseP bs = (parseN (M - (i + 1)) r4).map fun (vs, x) => ((us ++ [v]) ++ vs, x)) := by
              show _ = _
              rw [HPP.out, HJ.out.1, HJ.out.2, parseN_on H1.out hok, Option.map_map]
              congr 1
              funext p
              simp [List.append_assoc]
            obtain ⟨A5, c5, W5, hr, ho5, hb5⟩ := ownN_append_one S4.out O4.out v HWF.out (by have := HKM.out; omega)
            have R := Lib.hid hr
            have O5 := Lib.hid ho5
            have S5 := Lib.hid hb5
            obtain ⟨d0, d1, d2, d3, d4⟩ := N4.out.at_
            have HK5 : Hid ((k3 + 1) * 3 + n4 ≤ 900) := by show _ ≤ _; have := HKM.out; have := HLEN.out; omega
            clear hr ho5 hb5
            go_wp2_with (at_builtin; refine wpList_append_run rfl (.tmp 35) (.tmp 37) 22 rfl rfl rfl R.out ?_)
            go_roundw
            case rel => exact ⟨i + 1, x + 1, A4, n4, c4, r4, A5, k3 + 1, c5, us ++ [v], by go_num, by omega, by omega, by show _ = _; have := HX.out; omega, rfl, hn4, rfl, HC4, B3, O5, S5, HPP2, HK5⟩
            case measure => simp [intOf]; omega
      · have HE : Hid (parseP bs = some (us, rest)) := by
          show _ = _
          have h1 := HX.out
          have h2 := HY.out
          rw [HPP.out, show M - i = 0 by omega, parseN_zero]
          simp
        go_wp2_with fail
        go_ret3
        rw [HE.out]
        exact ⟨A3, k3, c3, B, m, d, rfl, hm, HO, HD, HBY, HB⟩
/-- What Read leaves. -/
def ReadsN (w : World) : Option (List V) → Ending → World → Prop
  | none, e, w' => ∃ v, e = .returned (.tuple #[.slice none 0 0, v]) ∧ Hid (Wrong 3 w' v) ∧ Hid (Below w.heap.size w w')
  | some vs, e, w' => ∃ (A : Option Addr) (n c : Nat), e = .returned (.tuple #[.slice A n c, .nilIface]) ∧ Hid (OwnN w' w.heap.size A n c vs) ∧ Hid (Below w.heap.size w w')
set_option maxHeartbeats 2000000 in
theorem read_any (A : Option Addr) (n c : Nat) (bs : List Nat) (w : World) (hn : n ≤ 900) (hc : n ≤ c) (hA : Bytes w w.heap.size A n bs) : Calls Try.prog 23 #[.slice A n c] w (ReadsN w (readR bs)) := by
  have HA := Lib.hid hA
  have HL := Lib.hid hA.len
  clear hA
  go_enter Try.func23, Try.ntmps23
  go_wp2_with fail
  refine (maybepage_any (n : Int) _).mono ?_
  rcases hpg : pageB (n : Int)
  · rintro e W1 ⟨rfl, rfl⟩
    have HR : Hid (readR bs = none) := readR_len (fun h => by
      rw [HL.out] at h
      have := pageB_yes (x := (n : Int)) (by omega) (by omega)
      rw [hpg] at this; cases this)
    go_wp2_with fail
    go_ret2
    rw [HR.out]
    exact ⟨_, rfl, ⟨_, _, rfl, cell_first rfl, cell_first rfl⟩, since_alloc (Below.refl _ _) _⟩
  · rintro e W1 ⟨rfl, rfl⟩
    have HX : Hid (128 ≤ bs.length ∧ bs.length ≤ 256) := by
      have h : 128 ≤ (n : Int) ∧ (n : Int) ≤ 256 := of_decide_eq_true hpg
      show _ ∧ _
      rw [HL.out]; omega
    clear hpg
    go_wp2_with fail
    refine (notesof_any A n c bs _ hn hc HA.out).mono ?_
    rcases hp : parseP bs with _ | ⟨vs, r⟩
    · rintro e W1 ⟨rfl, hb⟩
      have HR : Hid (readR bs = none) := readR_none hp
      go_wp2_with fail
      go_ret2
      rw [HR.out]
      exact ⟨_, rfl, ⟨_, _, rfl, cell_first rfl, cell_first rfl⟩, since_alloc hb.out _⟩
    · rintro e W1 ⟨A1, n1, c1, B1, m1, d1, rfl, hm1, HO1, HD1, HB1, hb⟩
      have HP := Lib.hid hp
      have HB2 := Lib.hid ((HB1.out.below hb.out).wider hb.out.size)
      clear hp
      go_wp2_with fail
      refine (iszeros_any B1 m1 d1 r _ hm1 HB2.out).mono ?_
      rcases hz : zerosB r
      · rintro e W2 ⟨rfl, hb2⟩
        have HR : Hid (readR bs = none) := readR_not HP.out hz
        have S2 := Lib.hid (below_chain hb.out hb2.out)
        go_wp2_with fail
        go_ret2
        rw [HR.out]
        exact ⟨_, rfl, ⟨_, _, rfl, cell_first rfl, cell_first rfl⟩, since_alloc S2.out _⟩
      · rintro e W2 ⟨rfl, hb2⟩
        have HR : Hid (readR bs = some vs) := readR_yes HX.out HP.out hz
        have S2 := Lib.hid (below_chain hb.out hb2.out)
        have O2 := Lib.hid (HO1.out.since hb2.out)
        go_wp2_with fail
        go_ret2
        rw [HR.out]
        exact ⟨A1, n1, c1, rfl, O2, S2⟩
end Go.Proofs.Ytaocppgekinocaa
