/- The plain mathematics of notes: their bytes, how many go in, pages of them, what bytes are read as. No conditions; no program. -/
import Derived.Test.YtaocppgekinocaaPackMath
set_option linter.unusedVariables false
set_option linter.unusedSimpArgs false
namespace Go.Proofs.Ytaocppgekinocaa.Nt

structure N where
  gone : Bool
  addr : Nat
  page : Nat
  dirty : Bool
  seq : Nat
/-- The note may be, and its address is one. -/
structure Ok (n : N) : Prop where
  seq0 : 1 ≤ n.seq
  seq1 : n.seq ≤ 1099511627775
  addr : n.addr < 18446744073709551616
  page : n.page ≤ 255
  gone : n.gone = true → n.page = 0 ∧ n.dirty = false
def kind (n : N) : Nat := if n.gone then 0 else if n.dirty then 2 else 1
def enc (n : N) : List Nat := Pk.put n.addr ++ (Pk.put n.seq ++ (kind n :: (if n.gone then [] else Pk.put n.page)))
def flat : List N → List Nat
  | [] => []
  | n :: r => enc n ++ flat r
def encs (ns : List N) : List Nat := Pk.put ns.length ++ flat ns
def page (k : Nat) (ns : List N) : List Nat := encs ns ++ List.replicate (k - (encs ns).length) 0

theorem flat_append (a b : List N) : flat (a ++ b) = flat a ++ flat b := by
  induction a with
  | nil => rfl
  | cons n r ih => simp only [List.cons_append, flat, ih, List.append_assoc]
theorem flat_snoc (a : List N) (n : N) : flat (a ++ [n]) = flat a ++ enc n := by rw [flat_append]; simp [flat]
theorem take_snoc {ns : List N} {j : Nat} (h : j < ns.length) : ns.take (j + 1) = ns.take j ++ [ns[j]] := List.take_succ_eq_append_getElem h
theorem kind_le (n : N) : kind n ≤ 2 := by unfold kind; split <;> (try split) <;> omega
theorem enc_byte (n : N) : ∀ b ∈ enc n, b < 256 := by
  intro b hb
  unfold enc at hb
  simp only [List.mem_append, List.mem_cons] at hb
  rcases hb with h | h | h | h
  · exact Pk.put_byte _ b h
  · exact Pk.put_byte _ b h
  · have := kind_le n; omega
  · split at h
    · cases h
    · exact Pk.put_byte _ b h
theorem flat_byte : ∀ (ns : List N), ∀ b ∈ flat ns, b < 256
  | [], b, hb => by cases hb
  | n :: r, b, hb => by
    rcases List.mem_append.1 hb with h | h
    · exact enc_byte n b h
    · exact flat_byte r b h
theorem page_byte (k : Nat) (ns : List N) : ∀ b ∈ page k ns, b < 256 := by
  intro b hb
  rcases List.mem_append.1 hb with h | h
  · rcases List.mem_append.1 h with h | h
    · exact Pk.put_byte _ b h
    · exact flat_byte ns b h
  · rw [(List.mem_replicate.1 h).2]; omega
theorem page_len {k : Nat} {ns : List N} (h : (encs ns).length ≤ k) : (page k ns).length = k := by
  unfold page
  rw [List.length_append, List.length_replicate]; omega

/- how many bytes -/
theorem enc_len3 (n : N) : 3 ≤ (enc n).length := by
  unfold enc
  rw [List.length_append, List.length_append, List.length_cons]
  have := Pk.put_pos n.addr
  have := Pk.put_pos n.seq
  omega
theorem enc_len (n : N) (h : Ok n) : (enc n).length ≤ 19 := by
  unfold enc
  rw [List.length_append, List.length_append, List.length_cons]
  have h1 := Pk.put_len10 h.addr
  have h2 : (Pk.put n.seq).length ≤ 6 := Pk.put_len_le n.seq 5 (Nat.lt_of_le_of_lt h.seq1 (by decide))
  have h3 : (if n.gone = true then ([] : List Nat) else Pk.put n.page).length ≤ 2 := by
    split
    · simp
    · exact Pk.put_len_le n.page 1 (by have := h.page; omega)
  omega
/-- The first so many notes' bytes. -/
def sz (ns : List N) (j : Nat) : Nat := (encs (ns.take j)).length
theorem sz_step {ns : List N} {j : Nat} (h : j < ns.length) : sz ns j + 3 ≤ sz ns (j + 1) := by
  unfold sz encs
  rw [take_snoc h, flat_snoc, List.length_append, List.length_append, List.length_append, List.length_append]
  have h1 := enc_len3 ns[j]
  have h2 : (Pk.put (ns.take j).length).length ≤ (Pk.put ((ns.take j).length + [ns[j]].length)).length := Pk.put_mono (by omega)
  omega
theorem sz_mono {ns : List N} : ∀ {i j : Nat}, i ≤ j → j ≤ ns.length → sz ns i ≤ sz ns j
  | i, 0, h, _ => by
    obtain rfl : i = 0 := by omega
    exact Nat.le_refl _
  | i, j + 1, h, hl => by
    by_cases e : i = j + 1
    · subst e; exact Nat.le_refl _
    · have h1 := sz_mono (ns := ns) (i := i) (j := j) (by omega) (by omega)
      have h2 := sz_step (ns := ns) (j := j) (by omega)
      omega
theorem sz_all (ns : List N) : sz ns ns.length = (encs ns).length := by unfold sz; rw [List.take_length]
theorem put1 {v : Nat} (h : v < 128) : (Pk.put v).length = 1 := by rw [Pk.put_small h]; rfl
theorem encs_len {ns : List N} (h : ns.length < 128) : (encs ns).length = 1 + (flat ns).length := by
  unfold encs; rw [List.length_append, put1 h]

/- how many go in -/
/-- k is how many of the first ones go into s bytes. -/
def Fits (s : Int) (ns : List N) (k : Nat) : Prop := k ≤ ns.length ∧ (k = 0 ∨ (sz ns k : Int) ≤ s) ∧ (k = ns.length ∨ s < (sz ns (k + 1) : Int))
theorem Fits.one {s : Int} {ns : List N} {k m : Nat} (h : Fits s ns k) (g : Fits s ns m) : k = m := by
  have key : ∀ {k m : Nat}, Fits s ns k → Fits s ns m → ¬ k < m := fun {k m} h g hlt => by
    obtain ⟨h1, h2, h3⟩ := h
    obtain ⟨g1, g2, g3⟩ := g
    have h4 : s < (sz ns (k + 1) : Int) := by
      rcases h3 with e | e
      · omega
      · exact e
    have h5 : (sz ns m : Int) ≤ s := by
      rcases g2 with e | e
      · omega
      · exact e
    have h6 := sz_mono (ns := ns) (i := k + 1) (j := m) (by omega) g1
    omega
  have a := key h g
  have b := key g h
  omega
theorem Fits.more {s : Int} {ns : List N} {k m : Nat} (h : Fits s ns k) (g : Fits (s + 1) ns m) : k ≤ m ∧ m ≤ k + 1 := by
  obtain ⟨h1, h2, h3⟩ := h
  obtain ⟨g1, g2, g3⟩ := g
  constructor
  · rcases Nat.lt_or_ge m k with hlt | hge
    · exfalso
      have h5 : (sz ns k : Int) ≤ s := by
        rcases h2 with e | e
        · omega
        · exact e
      have h4 : s + 1 < (sz ns (m + 1) : Int) := by
        rcases g3 with e | e
        · omega
        · exact e
      have h6 := sz_mono (ns := ns) (i := m + 1) (j := k) (by omega) h1
      omega
    · exact hge
  · rcases Nat.lt_or_ge (k + 1) m with hlt | hge
    · exfalso
      have h4 : s < (sz ns (k + 1) : Int) := by
        rcases h3 with e | e
        · omega
        · exact e
      have h5 : (sz ns m : Int) ≤ s + 1 := by
        rcases g2 with e | e
        · omega
        · exact e
      have h6 := sz_mono (ns := ns) (i := k + 1 + 1) (j := m) (by omega) g1
      have h7 := sz_step (ns := ns) (j := k + 1) (by omega)
      omega
    · exact hge
theorem fits_all (ns : List N) : Fits ((encs ns).length : Int) ns ns.length := ⟨Nat.le_refl _, Or.inr (by rw [sz_all]; omega), Or.inl rfl⟩
theorem fits_less {ns : List N} (h : 0 < ns.length) : Fits (((encs ns).length : Int) - 1) ns (ns.length - 1) := by
  refine ⟨by omega, Or.inr ?_, Or.inr ?_⟩
  · have h1 := sz_step (ns := ns) (j := ns.length - 1) (by omega)
    rw [Nat.sub_add_cancel h, sz_all] at h1
    omega
  · rw [Nat.sub_add_cancel h, sz_all]; omega

/- what was laid is read again -/
theorem put_cancel {a b : Nat} {x y : List Nat} (ha : a < 18446744073709551616) (hb : b < 18446744073709551616) (h : Pk.put a ++ x = Pk.put b ++ y) : a = b ∧ x = y := by
  have h1 := Pk.get_put x ha
  rw [h, Pk.get_put y hb] at h1
  have h2 := Option.some.inj h1
  injection h2 with e1 e2
  exact ⟨e1.symm, e2.symm⟩
theorem enc_cancel {n m : N} {x y : List Nat} (hn : Ok n) (hm : Ok m) (h : enc n ++ x = enc m ++ y) : n = m ∧ x = y := by
  unfold enc at h
  simp only [List.append_assoc, List.cons_append] at h
  obtain ⟨e1, h⟩ := put_cancel hn.addr hm.addr h
  obtain ⟨e2, h⟩ := put_cancel (by have := hn.seq1; omega) (by have := hm.seq1; omega) h
  injection h with e3 h
  have hg := hn.gone
  have mg := hm.gone
  have np := hn.page
  have mp := hm.page
  obtain ⟨g, a, p, d, s⟩ := n
  obtain ⟨g', a', p', d', s'⟩ := m
  simp only at e1 e2 hg mg np mp
  subst e1 e2
  unfold kind at e3
  cases g <;> cases g' <;> cases d <;> cases d' <;> simp at e3 h hg mg
  · obtain ⟨rfl, rfl⟩ := put_cancel (by omega) (by omega) h
    exact ⟨rfl, rfl⟩
  · obtain ⟨rfl, rfl⟩ := put_cancel (by omega) (by omega) h
    exact ⟨rfl, rfl⟩
  · exact ⟨by rw [hg, mg], h⟩
theorem flat_cancel : ∀ {ns ms : List N} {x y : List Nat}, ns.length = ms.length → (∀ n ∈ ns, Ok n) → (∀ n ∈ ms, Ok n) → flat ns ++ x = flat ms ++ y → ns = ms ∧ x = y
  | [], [], x, y, _, _, _, h => ⟨rfl, h⟩
  | n :: ns, m :: ms, x, y, hl, hn, hm, h => by
    simp only [flat, List.append_assoc] at h
    obtain ⟨e1, h2⟩ := enc_cancel (hn n (by simp)) (hm m (by simp)) h
    obtain ⟨e2, h3⟩ := flat_cancel (by simpa using hl) (fun k hk => hn k (by simp [hk])) (fun k hk => hm k (by simp [hk])) h2
    exact ⟨by rw [e1, e2], h3⟩
  | [], _ :: _, _, _, hl, _, _, _ => by simp at hl
  | _ :: _, [], _, _, hl, _, _, _ => by simp at hl
/-- A page is of one list of notes alone. -/
theorem page_cancel {k k' : Nat} {ns ms : List N} (h1 : ns.length < 18446744073709551616) (h2 : ms.length < 18446744073709551616) (hn : ∀ n ∈ ns, Ok n) (hm : ∀ n ∈ ms, Ok n) (h : page k ns = page k' ms) : ns = ms := by
  unfold page encs at h
  simp only [List.append_assoc] at h
  obtain ⟨e, h⟩ := put_cancel h1 h2 h
  exact (flat_cancel e hn hm h).1
/-- What bytes are read as: notes, or none. -/
def Page (bs : List Nat) (ns : List N) : Prop := (128 ≤ bs.length ∧ bs.length ≤ 256) ∧ (∀ n ∈ ns, Ok n) ∧ (encs ns).length ≤ bs.length ∧ bs = page bs.length ns
theorem page_few {bs : List Nat} {ns : List N} (h : Page bs ns) : ns.length ≤ 85 := by
  obtain ⟨⟨_, h1⟩, _, h2, _⟩ := h
  have key : ∀ (ns : List N), 3 * ns.length ≤ (flat ns).length := by
    intro ns
    induction ns with
    | nil => simp [flat]
    | cons n r ih =>
      have := enc_len3 n
      simp only [flat, List.length_append, List.length_cons]; omega
  have h3 := key ns
  unfold encs at h2
  rw [List.length_append] at h2
  have := Pk.put_pos ns.length
  omega
theorem Page.one {bs : List Nat} {ns ms : List N} (h : Page bs ns) (g : Page bs ms) : ns = ms :=
  page_cancel (by have := page_few h; omega) (by have := page_few g; omega) h.2.1 g.2.1 (h.2.2.2.symm.trans g.2.2.2)
inductive Rd where
  | bad : Rd
  | good : List N → Rd
def Reads (bs : List Nat) : Rd → Prop
  | .bad => ¬ ∃ ns, Page bs ns
  | .good ns => Page bs ns
theorem Reads.one {bs : List Nat} {x y : Rd} (h : Reads bs x) (k : Reads bs y) : x = y := by
  cases x <;> cases y
  · rfl
  · exact absurd ⟨_, k⟩ h
  · exact absurd ⟨_, h⟩ k
  · rw [Page.one h k]
end Go.Proofs.Ytaocppgekinocaa.Nt
