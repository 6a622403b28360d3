/- A label, as bytes: which may be; its runes, one by one; utf8.AppendRune onto a row of the caller's own. Conditions: the row is the caller's own. -/
import Derived.Test.YtopfdeihjjikiaaLabelMay
import Derived.Test.YtopfdeihjjikiaaRegion
import Derived.Test.YtopfdeihjjikiaaOver
import Derived.Test.YtopfdeihjjikiaaShelf
set_option linter.unusedVariables false
set_option linter.unusedSimpArgs false
namespace Go.Proofs.Ytopfdeihjjikiaa
open Go.RowKit Go.Lib

def natsOf (s : ByteArray) : List Nat := s.data.toList.map UInt8.toNat
def lettersOf (nm : List Nat) : List UInt8 := nm.map UInt8.ofNat
theorem strOf_data (nm : List Nat) : (strOf nm).data.toList = lettersOf nm := by simp [strOf, lettersOf]
theorem strOf_size (nm : List Nat) : (strOf nm).size = nm.length := by
  have : (strOf nm).size = (strOf nm).data.toList.length := Lib.size_eq _
  rw [this, strOf_data]; simp [lettersOf]
theorem strOf_nats (s : ByteArray) : strOf (natsOf s) = s := by
  unfold strOf natsOf
  rw [List.map_map]
  have : (UInt8.ofNat ∘ UInt8.toNat) = id := by funext b; simp
  rw [this, List.map_id]
theorem natsOf_lt (s : ByteArray) : ∀ b ∈ natsOf s, b < 256 := by
  intro b hb
  obtain ⟨u, _, rfl⟩ := List.mem_map.1 hb
  exact u.toNat_lt
/-- A label that may be. -/
structure OkN (nm : List Nat) : Prop where
  small : ∀ b ∈ nm, b < 256
  may : mayL (lettersOf nm) = true
theorem good_out {r : Int} (h : goodB r = true) : r ≠ 65533 ∧ 0 ≤ r ∧ r ≤ 40959 := by
  have h : goodP r := of_decide_eq_true h
  unfold goodP at h
  omega
theorem good_len {r : Int} (h : goodB r = true) : (encodeRune r).length ≤ 3 := by
  obtain ⟨_, h0, h1⟩ := good_out h
  by_cases c1 : r ≤ 127
  · rw [encodeRune_one h0 c1]; simp
  · by_cases c2 : r ≤ 2047
    · rw [encodeRune_two (by omega) c2]; simp
    · rw [encodeRune_three (by omega) (by omega)]; simp
theorem enc_len {rs : List Int} (h : rs.all goodB = true) : (enc rs).length ≤ 3 * rs.length := by
  induction rs with
  | nil => simp [enc_nil]
  | cons r rs ih =>
    rw [List.all_cons, Bool.and_eq_true] at h
    rw [enc_cons, List.length_append, List.length_cons]
    have := good_len h.1
    have := ih h.2
    omega
theorem mayL_out {l : List UInt8} (h : mayL l = true) : (runes l).length ≤ 12 ∧ (runes l).all goodB = true := by
  unfold mayL at h
  simp only [Bool.and_eq_true, decide_eq_true_eq] at h
  exact ⟨h.1.1.2, h.1.2⟩
theorem OkN.len {nm : List Nat} (h : OkN nm) : nm.length ≤ 36 := by
  obtain ⟨h1, h2⟩ := mayL_out h.may
  have e := enc_runes (lettersOf nm).length (lettersOf nm) (Nat.le_refl _) (fun r hr => (good_out (List.all_eq_true.1 h2 r hr)).1)
  have := enc_len h2
  rw [e] at this
  have e2 : (lettersOf nm).length = nm.length := by simp [lettersOf]
  omega
theorem OkN.good {nm : List Nat} (h : OkN nm) : (runes ((lettersOf nm).drop 0)).all goodB = true := by rw [List.drop_zero]; exact (mayL_out h.may).2
theorem cells_letters {bs : List Nat} (h : ∀ b ∈ bs, b < 256) : byteCells (lettersOf bs) = cellsOf bs := by
  unfold byteCells lettersOf cellsOf
  rw [List.map_map]
  refine List.map_congr_left fun b hb => ?_
  show Value.int .u8 ((UInt8.ofNat b).toNat : Int) = _
  have := h b hb
  rw [show (UInt8.ofNat b).toNat = b from by simp; omega]
/-- One rune on: what is laid of it is what stood there. -/
theorem good_step {nm : List Nat} (hs : ∀ b ∈ nm, b < 256) {pos : Nat} (hp : pos < nm.length) (h : (runes ((lettersOf nm).drop pos)).all goodB = true) :
    runeCells ((decodeL ((lettersOf nm).drop pos)).1 : Int) = cellsOf ((nm.drop pos).take (decodeL ((lettersOf nm).drop pos)).2) ∧ (runes ((lettersOf nm).drop (pos + (decodeL ((lettersOf nm).drop pos)).2))).all goodB = true := by
  have hl : pos < (lettersOf nm).length := by simpa [lettersOf] using hp
  have hne := drop_ne hl
  rw [runes_cons _ hne, List.all_cons, Bool.and_eq_true, List.drop_drop] at h
  have he := encode_decode _ hne (fun e => (good_out h.1).1 (by rw [e.1]; rfl))
  refine ⟨?_, h.2⟩
  have e2 : ((lettersOf nm).drop pos).take (decodeL ((lettersOf nm).drop pos)).2 = lettersOf ((nm.drop pos).take (decodeL ((lettersOf nm).drop pos)).2) := by
    simp only [lettersOf, List.map_take, List.map_drop]
  rw [← byteCells_encodeRune, he, e2]
  exact cells_letters fun b hb => hs b (List.mem_of_mem_drop (List.mem_of_mem_take hb))
theorem rune_bd (l : List UInt8) : -2147483648 ≤ ((decodeL l).1 : Int) ∧ ((decodeL l).1 : Int) ≤ 2147483647 := by
  have := decodeL_rune l
  omega
/-- utf8.AppendRune, of a rune whose bytes are known. -/
theorem appendrune_any (w0 : World) (A : Option Addr) (n c : Nat) (us cs : List Nat) (r : Int) (w : World) (hS : Below w0.heap.size w0 w) (hO : Own w w0.heap.size A n c us) (hr0 : -2147483648 ≤ r) (hr1 : r ≤ 2147483647) (hcs : runeCells r = cellsOf cs) (hsm : ∀ b ∈ cs, b < 256) (hn : n ≤ 8000) :
    Calls Try.prog 35 #[.slice A n c, .int .i32 r] w fun e w' => ∃ A' c', e = .returned (.slice A' (n + cs.length) c') ∧ Hid (Own w' w0.heap.size A' (n + cs.length) c' (us ++ cs)) ∧ Hid (w.grownBy w' (Value.slice A n c).ownBlock) := by
  have hl : (runeCells r).length = cs.length := by rw [hcs]; simp [cellsOf]
  refine (Try.utf8_AppendRune_plain w0.heap.size _ n (cellsOf us) r hr0 hr1 w hO.row (by omega) hS.size).mono ?_
  rintro e w' ⟨v', rfl, ho, o, hg⟩
  rw [hl, hcs] at ho
  have hform : ∃ A' c', v' = .slice A' (n + cs.length) c' := by
    rcases ho.2 with ⟨hv, hx⟩ | ⟨g, cap, cur, hv, _⟩
    · exact ⟨none, 0, by rw [hv, hx]⟩
    · exact ⟨_, _, hv⟩
  obtain ⟨A', c', rfl⟩ := hform
  refine ⟨A', c', rfl, ⟨?_, getD_append _ _ hO.small (getD_small hsm)⟩, grownBy_trans (World.grownBy_alloc _ _ _) hg⟩
  rw [show cellsOf (us ++ cs) = cellsOf us ++ cellsOf cs by unfold cellsOf; rw [List.map_append]]
  exact ho
/-- A row of cells is no iterator. -/
theorem own_ne_iter {w : World} {base n c g : Nat} {A : Option Addr} {us : List Nat} {s : ByteArray} {pos : Nat} (h : Own w base A n c us) (hi : w.heap[g]? = some (.stringIter s pos)) : ∀ b, (Value.slice A n c).ownBlock = some b → b ≠ g := by
  intro b hb e
  subst e
  rcases h.row.2 with ⟨hv, _⟩ | ⟨k, cap, cur, hv, _, hk, _⟩
  · rw [hv] at hb; cases hb
  · rw [hv] at hb
    obtain rfl : k = b := by simpa [Value.ownBlock] using hb
    rw [hk] at hi; cases hi
theorem grownBy_iter (w : World) (g : Nat) (s : ByteArray) (pos : Nat) : w.grownBy (w.iterAt g s pos) (some g) :=
  ⟨rfl, rfl, rfl, by rw [iterAt_size]; exact Nat.le_refl _, fun i _ hr => iterAt_other w g i s pos (fun e => hr (by rw [e]))⟩
theorem own_iter {w : World} {base n c g : Nat} {A : Option Addr} {us : List Nat} {s : ByteArray} {pos : Nat} (h : Own w base A n c us) (hi : w.heap[g]? = some (.stringIter s pos)) (pos' : Nat) : Own (w.iterAt g s pos') base A n c us := by
  refine ⟨h.row.kept (grownBy_iter w g s pos') ?_, h.small⟩
  cases hb : (Value.slice A n c).ownBlock with
  | none => exact Or.inl rfl
  | some k => exact Or.inr fun e => own_ne_iter h hi k hb (Option.some.inj e)
theorem iter_kept {w w' : World} {base n c g : Nat} {A : Option Addr} {us : List Nat} {s : ByteArray} {pos : Nat} (h : Own w base A n c us) (hi : w.heap[g]? = some (.stringIter s pos)) (hg : w.grownBy w' (Value.slice A n c).ownBlock) : w'.heap[g]? = some (.stringIter s pos) :=
  (hg.block g (Array.getElem?_eq_some_iff.1 hi).1 (fun e => own_ne_iter h hi g e.symm rfl)).trans hi
end Go.Proofs.Ytopfdeihjjikiaa
