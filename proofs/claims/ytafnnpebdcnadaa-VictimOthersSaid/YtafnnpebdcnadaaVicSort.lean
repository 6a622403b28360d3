/- slices.SortFunc of blocks by the landed comparison: a permutation, in order. Conditions: the row's cells; at most 8000 elements. -/
import Derived.Test.YtafnnpebdcnadaaVicLeaf
import Derived.Test.YtafnnpebdcnadaaShelf
set_option linter.unusedVariables false
set_option linter.unusedSimpArgs false
namespace Go.Proofs.Ytafnnpebdcnadaa
open Go.RowKit Go.Sort

instance : Inhabited VB := ⟨VB.zero⟩
theorem ltB (x y : VB) : ltOf cfB x y = true ↔ aheadV x y := by
  unfold ltOf
  rw [decide_eq_true_iff, cfB_neg]
theorem ltB_no (x y : VB) : ltOf cfB x y = false ↔ keptV y x := by
  rw [← Bool.not_eq_true, ltB]; exact Iff.rfl
theorem swoB : SWO (ltOf cfB) where
  irrefl x := (ltB_no x x).2 ahead_irr
  trans x y z h1 h2 := by
    rw [ltB] at *
    unfold aheadV at *; omega
  ntrans x y z h1 h2 := by
    rw [ltB_no] at *
    exact kept_trans h2 h1
theorem ad5 (g j : Nat) : (⟨g, 0, none⟩ : Addr).add j = ⟨g, j, none⟩ := by
  unfold Addr.add; split <;> simp_all
theorem vbcells_at (v : VB) {c : Nat} (hc : c < 5) : (vblkCells v)[c]? = some ((vblkCells v)[c]!) := by
  rw [getElem!_pos (vblkCells v) c (show c < (vblkCells v).length from hc), List.getElem?_eq_getElem (show c < (vblkCells v).length from hc)]
theorem arr_getD (L : List VB) (i : Nat) : L.toArray[i]! = L.getD i VB.zero := by
  rw [List.getD_eq_getElem?_getD, List.getElem!_toArray, List.getElem!_eq_getElem?_getD]; rfl
theorem holds_of_row {w : World} {base g n c : Nat} {L : List VB} (h : vblkK.Row w base (some ⟨g, 0, none⟩) n c L) : HoldsK vblkCells 5 w g 0 L.toArray := by
  intro j hj
  rw [size_flatK] at hj
  have hl := h.len
  have hj5 : j < n * 5 := by rw [← hl]; exact hj
  have hi : j / 5 < n := by omega
  have hc : j % 5 < 5 := by omega
  obtain ⟨ad, e1, _, e3⟩ := h.lie.each (j / 5) hi
  obtain rfl := Option.some.inj e1
  refine ⟨?_, ?_⟩
  · have e4 := e3 (j % 5) _ (vbcells_at (L.getD (j / 5) VB.zero) hc)
    rw [addr_add, show vblkK.k = 5 from rfl, show j / 5 * 5 + j % 5 = j by omega, ad5] at e4
    rw [get_flatK _ _ _ _ hj, arr_getD, Nat.zero_add]
    exact e4
  · obtain ⟨cur, e⟩ := Row.typed h g (by simp [blk])
    simp [World.frozen?, e]
theorem lie_of_holds {w : World} {g : Nat} {M : List VB} (hM : ∀ v ∈ M, VBWf v) (hg : g < w.heap.size) (h : HoldsK vblkCells 5 w g 0 M.toArray) : vblkK.Lie w w.heap.size (some ⟨g, 0, none⟩) M.length M :=
  Kind.lie_of (K := vblkK) rfl hM hg fun j u hu => by
    have hj : j < M.length * 5 := by
      rcases Nat.lt_or_ge j (vblkK.cells M).length with h1 | h1
      · rw [Kind.cells_len] at h1; exact h1
      · rw [List.getElem?_eq_none h1] at hu; cases hu
    have hi : j / 5 < M.length := by omega
    have hc : j % 5 < 5 := by omega
    have e := (h.cell (i := j / 5) (c := j % 5) hi hc).1
    rw [arr_getD, show 0 + j / 5 * 5 + j % 5 = j by omega] at e
    have e2 := vblkK.cells_at M (j / 5) (j % 5) hi hc
    rw [show j / 5 * vblkK.k + j % 5 = j by show j / 5 * 5 + j % 5 = j; omega, hu] at e2
    rw [e]
    exact (vbcells_at _ hc).symm.trans e2.symm
theorem below_sorted {base g : Nat} {w : World} (hb : base ≤ g) (hw : base ≤ w.heap.size) (q : Nat) (d : Array VB) (os : Array Obj) : Go.RowKit.Below base w (sortWorldK vblkCells 5 w g 0 q d os) := by
  have h1 : Go.RowKit.Below base w (putRowK vblkCells 5 (Sort.ahead w q) g 0 d) := ⟨rfl, rfl, rfl, by simp [putRowK, putRow, mapBlock, Sort.ahead], fun k hk => by
    simp [putRowK, putRow, mapBlock, Sort.ahead, Array.getElem?_modify, show g ≠ k by omega]⟩
  have hs : w.heap.size = (putRowK vblkCells 5 (Sort.ahead w q) g 0 d).heap.size := by simp [putRowK, putRow, mapBlock, Sort.ahead]
  refine h1.trans ⟨rfl, rfl, rfl, ?_, fun k hk => ?_⟩
  · show (putRowK vblkCells 5 (Sort.ahead w q) g 0 d).heap.size ≤ ((putRowK vblkCells 5 (Sort.ahead w q) g 0 d).heap ++ os).size
    rw [Array.size_append]; omega
  · show ((putRowK vblkCells 5 (Sort.ahead w q) g 0 d).heap ++ os)[k]? = _
    rw [Array.getElem?_append_left (by omega)]
theorem cmpB_lays (g size : Nat) (w : World) : CmpLays Try.prog 21 #[] vblkCells 5 cfB g 0 size w := fun _ _ _ _ x y => vcompare_gro x y _
set_option maxHeartbeats 1000000 in
theorem vsort_any (g n c base : Nat) (L : List VB) (w : World) (hb : base ≤ g) (hn : n ≤ 8000) (h : vblkK.Row w base (some ⟨g, 0, none⟩) n c L) :
    Calls Try.prog 20 #[.slice (some ⟨g, 0, none⟩) n c, .func (.func 21) #[] #[]] w fun e w' =>
      e = .returned (.tuple #[]) ∧ ∃ M : List VB, M.Perm L ∧ M.Pairwise keptV ∧ Hid (vblkK.Lie w' w'.heap.size (some ⟨g, 0, none⟩) n M) ∧ Hid (Go.RowKit.Below base w w') := by
  have eg : ∀ args w, (callFunc 21 args).run Try.prog w = .ok (.enter 21 args) w := enters_of Try.func21 (by kernel_rfl) rfl
  have hl := h.len
  have hlt : g < w.heap.size := (h.row.lt g rfl).2
  have hwf := h.wf
  have hH := holds_of_row h
  have hs : L.toArray.size = n := hl
  have hcon := AnyQ.slices_SortFunc Try.sortV 5 Try.isAgg34 Try.sizeOf34 vblkCells (fun _ => rfl) (fun x v hv => vblkK.one x v hv) cfB swoB 21 #[] g 0 c L.toArray w eg (cmpB_lays g _ w) hH hlt (by rw [hs]; omega)
  rw [hs] at hcon
  change Calls Try.prog 20 _ _ _ at hcon
  refine hcon.mono ?_
  rintro e w' ⟨rfl, d', q, os, hp, hso, rfl⟩
  obtain ⟨hp1, _, hp2⟩ := hp
  have hd : d'.size = n := hp1.trans hs
  have hperm : d'.toList.Perm L := by
    have e1 : d'.extract 0 n = d' := by rw [← hd]; simp
    have e2 : L.toArray.extract 0 n = L.toArray := by rw [← hs]; simp
    rw [e1, e2] at hp2
    exact hp2
  have hM : ∀ v ∈ d'.toList, VBWf v := fun v hv => hwf v (hperm.mem_iff.1 hv)
  have hD : HoldsK vblkCells 5 (sortWorldK vblkCells 5 w g 0 q d' os) g 0 d' := holdsK_sortWorldK_c vblkCells 5 w g 0 L.toArray d' q os hH hlt (hd.trans hs.symm)
  have hB := below_sorted (q := q) (d := d') (os := os) hb (Nat.le_of_lt (Nat.lt_of_le_of_lt hb hlt))
  have hg2 : g < (sortWorldK vblkCells 5 w g 0 q d' os).heap.size := by
    show g < ((putRowK vblkCells 5 (Sort.ahead w q) g 0 d').heap ++ os).size
    rw [Array.size_append]
    have : (putRowK vblkCells 5 (Sort.ahead w q) g 0 d').heap.size = w.heap.size := by simp [putRowK, putRow, mapBlock, Sort.ahead]
    omega
  refine ⟨rfl, d'.toList, hperm, List.pairwise_iff_getElem.2 fun i j hi hj hij => ?_, ?_, hB⟩
  · have hjn : j < n := by rw [← hd]; simpa using hj
    have h3 := hso i j (Nat.zero_le _) hij hjn
    rw [ltB_no] at h3
    have ei : d'[i]! = d'.toList[i] := by rw [getElem!_pos d' i (by rw [hd]; omega)]; simp
    have ej : d'[j]! = d'.toList[j] := by rw [getElem!_pos d' j (by rw [hd]; omega)]; simp
    rw [ei, ej] at h3
    exact h3
  · have h5 := lie_of_holds hM hg2 (by simpa using hD)
    rw [show d'.toList.length = n by rw [← hd]; simp] at h5
    exact h5
end Go.Proofs.Ytafnnpebdcnadaa
