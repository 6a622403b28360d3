/- append(row, make([]byte, k)...), and the contract of note.Lay. Conditions: the slices' cells; at most 100 notes. -/
import Derived.Test.YtaocppgekinocaaNoteFit
import Derived.Lib.AppendZerosOnto
set_option linter.unusedVariables false
set_option linter.unusedSimpArgs false
namespace Go.Proofs.Ytaocppgekinocaa
open Go.RowKit

theorem zeroCells_one (k : Nat) : (Builtin.zeroCells #[.int .u8 0] k).toList = cellsOf (List.replicate k 0) := by
  apply List.ext_getElem
  · simp [cellsOf, Builtin.zeroCells]
  · intro i h1 h2
    simp [cellsOf, Builtin.zeroCells, Nat.mod_one]
theorem cellsOf_one (bs : List Nat) : ∀ u ∈ cellsOf bs, u.oneCell' = true := by
  intro u hu
  obtain ⟨b, _, rfl⟩ := List.mem_map.1 hu
  rfl
theorem rep_small (k : Nat) : ∀ j, (List.replicate k 0).getD j 0 < 256 := fun j => by
  rw [List.getD_eq_getElem?_getD, List.getElem?_replicate]; split <;> simp
/-- append(row, make([]byte, k)...), the row not empty. -/
theorem own_append_zeros {w W : World} {A : Option Addr} {n c k : Nat} {bs : List Nat} (hS : Below w.heap.size w W) (h : Own W w.heap.size A n c bs) (x : Int) (hx : x = (k : Int)) (h0 : 0 < n) (hnk : n + k ≤ 8000) :
    ∃ A2 c2 W2, (Builtin.append_ #[25, 3] 25 #[.slice A n c, .int .i64 x]).run Try.prog W = .ok (.slice A2 (n + k) c2) W2 ∧ Own W2 w.heap.size A2 (n + k) c2 (bs ++ List.replicate k 0) ∧ Below w.heap.size w W2 := by
  subst hx
  obtain ⟨i0, hi, hz0, hz1, hz2⟩ := info_parts info5
  have hsm := getD_append bs (List.replicate k 0) h.small (rep_small k)
  rcases h.row.2 with ⟨hv, hn0⟩ | ⟨g, cap, cur, hv, hbg, hg, hnc, hcm, hsz, ht⟩
  · omega
  · injection hv with e1 e2 e3
    subst e1 e3
    have hl : (cellsOf (bs ++ List.replicate k 0)).length = (n + k) * 1 := by unfold cellsOf; rw [List.length_map, List.length_append, List.length_replicate, h.len]; omega
    have hcl : cellsOf (bs ++ List.replicate k 0) = cellsOf bs ++ cellsOf (List.replicate k 0) := by unfold cellsOf; rw [List.map_append]
    have hlen := h.row.1
    have hrl : (cellsOf (List.replicate k 0)).length = k := by simp [cellsOf]
    have hw : IntKind.i64.wrap (k : Int) = k := by rw [IntKind.wrap_i64]; omega
    by_cases hroom : n + k ≤ c
    · have hst := run_storeCells_at Try.prog g n 5 (cellsOf (List.replicate k 0)) 0 cur W hg (by rw [hrl]; omega) (cellsOf_one _)
      simp only [Nat.add_zero] at hst
      refine ⟨some ⟨g, 0, none⟩, c, W.setRow g (cur.toList.take n ++ cellsOf (List.replicate k 0) ++ cur.toList.drop (n + (cellsOf (List.replicate k 0)).length)).toArray, ?_, ⟨⟨hl, .inr ⟨g, c, _, rfl, hbg, setRow_heap W g cur _ _ _ hg, hroom, hcm, ?_, ?_⟩⟩, hsm⟩, ?_⟩
      · have h48i : ¬ (281474976710656 < (k : Int)) := by omega
        have hneg : ¬ ((k : Int) < 0) := by omega
        by_cases hk : k = 0
        · subst hk
          have hst' : (storeCells ⟨g, n, none⟩ []).run Try.prog W = .ok () (W.setRow g (cur.toList.take n ++ [] ++ cur.toList.drop n).toArray) := by
            have := hst
            simpa [cellsOf] using this
          simp [Builtin.append_, run_underlying Try.underlying25, run_underlying Try.underlying3, sizeOf, typeInfo, zeroValue, hi, hz0, hz1, hz2, asInt, asIntOf, hroom, Addr.add_lit, IntKind.wrap_i64, cellsOf] at hst' ⊢
          simp [hst', show n ≤ c by omega]
        · have ez := zeroCells_one k
          simp only [Builtin.append_, run_underlying Try.underlying25, run_underlying Try.underlying3]
          simp [Builtin.append_, run_underlying Try.underlying25, run_underlying Try.underlying3, sizeOf, typeInfo, zeroValue, hi, hz0, hz1, hz2, asInt, asIntOf, hw, hneg, h48i, hk, hroom, Addr.add_lit, ez, hst, Value.cells]
      · simp only [List.size_toArray, List.length_append, List.length_take, List.length_drop, Array.length_toList]
        omega
      · have e1 : cur.toList.take n = cellsOf bs := by rw [← ht, Nat.mul_one]
        rw [show (List.toArray (cur.toList.take n ++ cellsOf (List.replicate k 0) ++ cur.toList.drop (n + (cellsOf (List.replicate k 0)).length))).toList = (cur.toList.take n ++ cellsOf (List.replicate k 0)) ++ cur.toList.drop (n + (cellsOf (List.replicate k 0)).length) from rfl, e1, ← hcl, ← hl]
        exact List.take_left
      · exact below_setRow hS hbg _
    · have holds := h.row.cells (g := g) rfl
      have hfo := run_firstCells_some (P := Try.prog) W.drew i0.size n ⟨g, 0, none⟩ n c (cellsOf bs) (by rw [hz1]; exact hlen) (by simpa using holds)
      have hr := Lib.run_append_grow_zeros (P := Try.prog) W 25 3 25 5 i0 _ .i64 .i64 Try.underlying25 Try.underlying3 hi hz0 (some ⟨g, 0, none⟩) n c (cellsOf bs) hfo k (by omega) (by omega) (by omega) (by omega) (by rw [hz2]; omega)
        (growslice_fits (by omega) (by rw [hz2]; omega))
      refine ⟨_, _, _, hr, ⟨⟨hl, .inr ⟨W.heap.size, _, _, rfl, hS.size, heap_alloc_new W.drew _, grownCap_ge W (n + k) c 5, grownCap_le_maxLen W (n + k) c 5 (by unfold maxLen; omega), ?_, ?_⟩⟩, hsm⟩, ?_⟩
      · simp only [Array.size_append, List.size_toArray, size_zeroCells]
        have := grownCap_ge W (n + k) c 5
        have e : (Value.int IntKind.u8 0).cells.size = 1 := rfl
        rw [hlen, e]
        omega
      · simp only [Array.toList_append]
        have e : (Value.int IntKind.u8 0).cells = #[.int .u8 0] := rfl
        rw [e, zeroCells_one, ← hcl, ← hl]
        exact List.take_left
      · exact (hS.drew).alloc hS.size _
/-- What Lay answers: the number of the error, or the page. -/
def layR (x : Int) (vs : List V) : Sum Nat (List Nat) := if pageB x = true ∧ allB vs = true then (if ((encL vs).length : Int) ≤ x then .inr (Nt.page x.toNat (vs.map toN)) else .inl 7) else .inl 2
theorem layR_no {x : Int} {vs : List V} (h : pageB x = false ∨ allB vs = false) : layR x vs = .inl 2 := if_neg (fun k => by rcases h with h | h <;> simp [h] at k)
theorem layR_full {x : Int} {vs : List V} (h1 : pageB x = true) (h2 : allB vs = true) (h3 : x < ((encL vs).length : Int)) : layR x vs = .inl 7 := by unfold layR; rw [if_pos ⟨h1, h2⟩, if_neg (by omega)]
theorem layR_yes {x : Int} {vs : List V} (h1 : pageB x = true) (h2 : allB vs = true) (h3 : ((encL vs).length : Int) ≤ x) : layR x vs = .inr (Nt.page x.toNat (vs.map toN)) := by unfold layR; rw [if_pos ⟨h1, h2⟩, if_pos h3]
def Lays (w : World) : Sum Nat (List Nat) → Ending → World → Prop
  | .inl k, e, w' => ∃ v, e = .returned (.tuple #[.slice none 0 0, v]) ∧ Hid (Wrong (k : Int) w' v) ∧ Hid (Below w.heap.size w w')
  | .inr ps, e, w' => ∃ A n c, e = .returned (.tuple #[.slice A n c, .nilIface]) ∧ Hid (Own w' w.heap.size A n c ps) ∧ Hid (Below w.heap.size w w')
set_option maxHeartbeats 2000000 in
theorem lay_any (A : Option Addr) (n c : Nat) (x : Int) (vs : List V) (w : World) (hn : n ≤ 100) (hA : Notes w w.heap.size A n vs) :
    Calls Try.prog 10 #[.int .i64 x, .slice A n c] w (Lays w (layR x vs)) := by
  have HA := Lib.hid hA
  have HL := Lib.hid hA.len
  clear hA
  go_enter Try.func10, Try.ntmps10
  go_wp2_with fail
  refine (maybepage_any x _).mono ?_
  rcases hpg : pageB x
  · have HR : Hid (layR x vs = .inl 2) := layR_no (Or.inl hpg)
    rintro e W1 ⟨rfl, rfl⟩
    go_wp2_with fail
    go_ret2
    rw [HR.out]
    exact ⟨_, rfl, ⟨_, _, rfl, cell_first rfl, cell_first rfl⟩, since_alloc (Below.refl _ _) _⟩
  · rintro e W1 ⟨rfl, rfl⟩
    have hx : 128 ≤ x ∧ x ≤ 256 := of_decide_eq_true hpg
    obtain ⟨hx0, hx1⟩ := hx
    go_wp2_with fail
    refine (mayall_any A n c vs _ (by omega) HA.out).mono ?_
    rcases hok : allB vs
    · have HR : Hid (layR x vs = .inl 2) := layR_no (Or.inr hok)
      rintro e W1 ⟨rfl, hb⟩
      go_wp2_with fail
      go_ret2
      rw [HR.out]
      exact ⟨_, rfl, ⟨_, _, rfl, cell_first rfl, cell_first rfl⟩, since_alloc hb.out _⟩
    · rintro e W1 ⟨rfl, hb⟩
      have HA1 := Lib.hid (HA.out.since hb.out)
      go_wp2_with fail
      refine (laid_any A n c vs _ hn hok HA1.out).mono ?_
      rintro e W2 ⟨A2, n2, c2, rfl, ho2, hb2⟩
      have HO2 := Lib.hid (ho2.elder (base' := w.heap.size) hb.out.size)
      have HB2 := Lib.hid (below_chain hb.out hb2)
      have HN2 : Hid (n2 = (encL vs).length) := ho2.len.symm
      have hc2 := ho2.cap
      have h2 : n2 ≤ 2000 := by
        rw [HN2.out, encL_eq, List.length_append]
        have h1 := flatL_len hok HA.out.all vs.length
        rw [flatL_all] at h1
        have h3 := Pk.put_len10 (v := vs.length) (by rw [HL.out]; omega)
        have h4 := HL.out
        omega
      clear ho2 hb2
      by_cases hgt : x < (n2 : Int)
      · have HR : Hid (layR x vs = .inl 7) := layR_full hpg hok (by rw [← HN2.out]; exact hgt)
        go_wp2_with fail
        go_ret2
        rw [HR.out]
        exact ⟨_, rfl, ⟨_, _, rfl, cell_first rfl, cell_first rfl⟩, since_alloc HB2.out _⟩
      · have HR : Hid (layR x vs = .inr (Nt.page x.toNat (vs.map toN))) := layR_yes hpg hok (by rw [← HN2.out]; omega)
        have h0 : 0 < n2 := by
          rw [HN2.out, encL_eq, List.length_append]
          have := Pk.put_pos vs.length
          omega
        obtain ⟨k, HK⟩ : ∃ k : Nat, Hid (x = (n2 : Int) + k) := ⟨(x - n2).toNat, by show _ = _; omega⟩
        obtain ⟨A3, c3, W3, hr, ho3, hb3⟩ := own_append_zeros (k := k) HB2.out HO2.out (x - (n2 : Int)) (by have := HK.out; omega) h0 (by have := HK.out; omega)
        have R := Lib.hid hr
        have HO3 := Lib.hid ho3
        have HB3 := Lib.hid hb3
        have HPG : Hid (encL vs ++ List.replicate k 0 = Nt.page x.toNat (vs.map toN)) := by
          show _ = _
          unfold Nt.page
          have hk := HK.out
          have e : x.toNat - (Nt.encs (vs.map toN)).length = k := by
            have : (Nt.encs (vs.map toN)).length = n2 := HN2.out.symm
            omega
          rw [e]; rfl
        clear hr ho3 hb3
        go_wp2_with (at_builtin; refine Lib.wpList_append_run _ rfl (.tmp 27) (.tmp 31) 25 3 rfl _ _ rfl rfl _ _ R.out ?_)
        go_ret2
        rw [HR.out]
        exact ⟨_, _, _, rfl, HO3.out.same HPG.out, HB3.out⟩
end Go.Proofs.Ytaocppgekinocaa
