/- What the document's own Read answers, as plain mathematics: the same as Read. Conditions: bytes. -/
import Derived.Test.YtaocppgekinocaaNotePage
import Derived.Test.YtaocppgekinocaaNoteParse
set_option linter.unusedVariables false
set_option linter.unusedSimpArgs false
namespace Go.Proofs.Ytaocppgekinocaa
open Go.RowKit

/-- A number and what is behind it; none: 0, and no bytes. -/
def getL (l : List Nat) : Nat × List Nat := (Pk.get 0 0 l).getD (0, [])
theorem getL_none {l : List Nat} (h : Pk.get 0 0 l = none) : getL l = (0, []) := by unfold getL; rw [h]; rfl
theorem getL_some {l r : List Nat} {v : Nat} (h : Pk.get 0 0 l = some (v, r)) : getL l = (v, r) := by unfold getL; rw [h]; rfl
theorem getL_cases (l : List Nat) (hb : ∀ b ∈ l, b < 256) : (getL l = (0, []) ∧ Pk.get 0 0 l = none) ∨ (Pk.get 0 0 l = some (getL l) ∧ (getL l).2.length + 1 ≤ l.length ∧ (getL l).1 < 18446744073709551616 ∧ ∀ b ∈ (getL l).2, b < 256) := by
  rcases h : Pk.get 0 0 l with _ | ⟨v, r⟩
  · exact Or.inl ⟨getL_none h, rfl⟩
  · obtain ⟨e, hv⟩ := get_split hb h
    rw [getL_some h]
    refine Or.inr ⟨rfl, ?_, hv, fun b hh => hb b (by rw [e]; exact List.mem_append_right _ hh)⟩
    have h1 := congrArg List.length e
    have h2 := Pk.put_pos v
    rw [List.length_append] at h1
    show r.length + 1 ≤ l.length
    omega
theorem getL_lt (l : List Nat) (hb : ∀ b ∈ l, b < 256) : (getL l).1 < 18446744073709551616 := by
  rcases getL_cases l hb with ⟨h, _⟩ | ⟨_, _, h, _⟩
  · rw [h]; decide
  · exact h
theorem getL_byte (l : List Nat) (hb : ∀ b ∈ l, b < 256) : ∀ b ∈ (getL l).2, b < 256 := by
  rcases getL_cases l hb with ⟨h, _⟩ | ⟨_, _, _, h⟩
  · rw [h]; intro b hh; cases hh
  · exact h
theorem getL_len (l : List Nat) (hb : ∀ b ∈ l, b < 256) : (getL l).2.length ≤ l.length := by
  rcases getL_cases l hb with ⟨h, _⟩ | ⟨_, h, _⟩
  · rw [h]; exact Nat.zero_le _
  · omega
theorem getL_less (l : List Nat) (hb : ∀ b ∈ l, b < 256) (h0 : (getL l).2 ≠ []) : (getL l).2.length + 1 ≤ l.length := by
  rcases getL_cases l hb with ⟨h, _⟩ | ⟨_, h, _⟩
  · rw [h] at h0; exact absurd rfl h0
  · exact h
/-- One note, leniently. -/
def len1 (bs : List Nat) : Option (V × List Nat) :=
  match (getL (getL bs).2).2 with
  | [] => none
  | k :: r => if k = 0 then some (goneV (getL bs).1 (getL (getL bs).2).1, r) else some (hereV (getL bs).1 (getL (getL bs).2).1 k (getL r).1, (getL r).2)
theorem len1_none {bs : List Nat} (h : (getL (getL bs).2).2 = []) : len1 bs = none := by unfold len1; rw [h]
theorem len1_gone {bs r : List Nat} (h : (getL (getL bs).2).2 = 0 :: r) : len1 bs = some (goneV (getL bs).1 (getL (getL bs).2).1, r) := by unfold len1; rw [h]; rfl
theorem len1_here {bs r : List Nat} {k : Nat} (h : (getL (getL bs).2).2 = k :: r) (hk : k ≠ 0) : len1 bs = some (hereV (getL bs).1 (getL (getL bs).2).1 k (getL r).1, (getL r).2) := by unfold len1; rw [h]; simp [hk]
theorem len1_of {bs r : List Nat} {v : V} (h : parse1 bs = some (v, r)) : len1 bs = some (v, r) := by
  rcases h0 : Pk.get 0 0 bs with _ | ⟨a, r1⟩
  · rw [parse1_a h0] at h; cases h
  rcases h1 : Pk.get 0 0 r1 with _ | ⟨s, r2⟩
  · rw [parse1_s h0 h1] at h; cases h
  rcases r2 with _ | ⟨k, r3⟩
  · rw [parse1_e h0 h1] at h; cases h
  have e0 := getL_some h0
  have e1 := getL_some h1
  have hy : (getL (getL bs).2).2 = k :: r3 := by rw [e0]; show (getL r1).2 = _; rw [e1]
  by_cases hk : 2 < k
  · rw [parse1_k h0 h1 hk] at h; cases h
  by_cases hk0 : k = 0
  · subst hk0
    rw [parse1_g h0 h1] at h
    rw [len1_gone hy, ← h, e0]
    show some (goneV a (getL r1).1, r3) = _
    rw [e1]
  · rcases h3 : Pk.get 0 0 r3 with _ | ⟨p, r4⟩
    · rw [parse1_p h0 h1 (by omega) hk0 h3] at h; cases h
    rw [parse1_h h0 h1 (by omega) hk0 h3] at h
    rw [len1_here hy hk0, ← h, e0, getL_some h3]
    show some (hereV a (getL r1).1 k p, r4) = _
    rw [e1]
theorem wf_goneV {a s : Nat} (ha : a < 18446744073709551616) : Wf (goneV a s) := by
  have ws := wrapS_bd s
  exact ⟨Int.natCast_nonneg _, by show (a : Int) ≤ _; omega, by show (-9223372036854775808 : Int) ≤ 0; omega, by show (0 : Int) ≤ _; omega, ws.1, ws.2⟩
theorem wf_hereV {a s k p : Nat} (ha : a < 18446744073709551616) : Wf (hereV a s k p) := by
  have ws := wrapS_bd s
  have wp := wrapS_bd p
  exact ⟨Int.natCast_nonneg _, by show (a : Int) ≤ _; omega, wp.1, wp.2, ws.1, ws.2⟩
/-- It has three bytes at least. -/
theorem len1_some {bs r : List Nat} {v : V} (hb : ∀ b ∈ bs, b < 256) (h : len1 bs = some (v, r)) : Wf v ∧ r.length + 3 ≤ bs.length ∧ ∀ b ∈ r, b < 256 := by
  have ha := getL_lt bs hb
  have b1 := getL_byte bs hb
  have b2 := getL_byte _ b1
  rcases hy : (getL (getL bs).2).2 with _ | ⟨k, r3⟩
  · rw [len1_none hy] at h; cases h
  · have l2 := getL_less _ b1 (by rw [hy]; simp)
    have l1 := getL_less bs hb (fun e => by rw [e] at hy; simp [getL, Pk.get_nil] at hy)
    rw [hy, List.length_cons] at l2
    have b3 : ∀ b ∈ r3, b < 256 := fun b hh => b2 b (by rw [hy]; exact List.mem_cons_of_mem _ hh)
    by_cases hk0 : k = 0
    · subst hk0
      rw [len1_gone hy] at h
      injection h with h; injection h with h1 h2
      subst h1 h2
      exact ⟨wf_goneV ha, by omega, b3⟩
    · rw [len1_here hy hk0] at h
      injection h with h; injection h with h1 h2
      subst h1 h2
      have := getL_len r3 b3
      exact ⟨wf_hereV ha, by omega, getL_byte r3 b3⟩
def lenN : Nat → List Nat → Option (List V × List Nat)
  | 0, bs => some ([], bs)
  | k + 1, bs => match len1 bs with
    | none => none
    | some (v, r) => (lenN k r).map fun (vs, x) => (v :: vs, x)
theorem lenN_zero (bs : List Nat) : lenN 0 bs = some ([], bs) := rfl
theorem lenN_bad {k : Nat} {bs : List Nat} (h : len1 bs = none) : lenN (k + 1) bs = none := by rw [lenN, h]
theorem lenN_on {k : Nat} {bs r : List Nat} {v : V} (h : len1 bs = some (v, r)) : lenN (k + 1) bs = (lenN k r).map fun (vs, x) => (v :: vs, x) := by rw [lenN, h]
theorem lenN_of : ∀ {k : Nat} {bs r : List Nat} {vs : List V}, parseN k bs = some (vs, r) → lenN k bs = some (vs, r)
  | 0, bs, r, vs, h => h
  | k + 1, bs, r, vs, h => by
    rcases h1 : parse1 bs with _ | ⟨v, r1⟩
    · rw [parseN_bad h1] at h; cases h
    · rcases ho : okB v
      · rw [parseN_not h1 ho] at h; cases h
      · rw [parseN_on h1 ho] at h
        rw [lenN_on (len1_of h1)]
        rcases h2 : parseN k r1 with _ | ⟨us, x⟩
        · rw [h2] at h; cases h
        · rw [h2] at h
          rw [lenN_of h2]
          exact h
theorem lenN_wf : ∀ {k : Nat} {bs r : List Nat} {vs : List V}, (∀ b ∈ bs, b < 256) → lenN k bs = some (vs, r) → ∀ v ∈ vs, Wf v
  | 0, bs, r, vs, hb, h => by
    rw [lenN_zero] at h
    injection h with h; injection h with h1 h2
    subst h1
    intro v hv; cases hv
  | k + 1, bs, r, vs, hb, h => by
    rcases h1 : len1 bs with _ | ⟨v, r1⟩
    · rw [lenN_bad h1] at h; cases h
    · obtain ⟨hw, _, hb1⟩ := len1_some hb h1
      rw [lenN_on h1] at h
      rcases h2 : lenN k r1 with _ | ⟨us, x⟩
      · rw [h2] at h; cases h
      · rw [h2] at h
        simp only [Option.map_some] at h
        injection h with h; injection h with h3 h4
        subst h3
        intro u hu
        rcases List.mem_cons.1 hu with rfl | hu
        · exact hw
        · exact lenN_wf hb1 h2 u hu
/-- How many notes it reads. -/
def manyL (bs : List Nat) : Nat := min (getL bs).1 256
theorem readR_lenient {bs : List Nat} (hb : ∀ b ∈ bs, b < 256) {vs : List V} {r : List Nat} (h : lenN (manyL bs) (getL bs).2 = some (vs, r)) :
    (layR (bs.length : Int) vs = .inr bs → readR bs = some vs) ∧ (layR (bs.length : Int) vs ≠ .inr bs → readR bs = none) := by
  have hwf := lenN_wf (getL_byte bs hb) h
  constructor
  · intro hl
    unfold layR at hl
    split at hl
    · rename_i hc
      split at hl
      · rename_i hf
        injection hl with hl
        have hp : 128 ≤ (bs.length : Int) ∧ (bs.length : Int) ≤ 256 := of_decide_eq_true hc.1
        have := readR_laid (k := bs.length) hc.2 hwf (by omega) (by omega) (by omega)
        rw [show ((bs.length : Nat) : Int).toNat = bs.length by omega] at hl
        rw [hl] at this
        exact this
      · cases hl
    · cases hl
  · intro hne
    rcases hr : readR bs with _ | us
    · rfl
    · exfalso
      obtain ⟨hpg, hall, hw, hlen⟩ := readR_some hb hr
      apply hne
      have hus : us = vs := by
        rcases h0 : Pk.get 0 0 bs with _ | ⟨m, r0⟩
        · rw [readR_none (by unfold parseP; rw [h0])] at hr; cases hr
        · rcases hp : parseP bs with _ | ⟨us', x⟩
          · rw [readR_none hp] at hr; cases hr
          · have hpn : parseN m r0 = some (us', x) := by unfold parseP at hp; rw [h0] at hp; exact hp
            have hus' : us' = us := by
              rcases hz : zerosB x
              · rw [readR_not hp hz] at hr; cases hr
              · rw [readR_yes hpg.1 hp hz] at hr; exact Option.some.inj hr
            subst hus'
            have hm : us'.length = m := (parseN_some (fun b hh => hb b (by rw [(get_split hb h0).1]; exact List.mem_append_right _ hh)) hpn).1
            have hl := lenN_of hpn
            have e0 := getL_some h0
            have e : manyL bs = m := by unfold manyL; rw [e0]; show min m 256 = m; omega
            rw [e, e0] at h
            have h : lenN m r0 = some (vs, r) := h
            rw [hl] at h
            injection h with h; injection h
      subst hus
      obtain ⟨hl, hok, hle, he⟩ := hpg
      rw [layR_yes (pageB_yes (by omega) (by omega)) hall (by show ((Nt.encs (us.map toN)).length : Int) ≤ _; omega), show ((bs.length : Nat) : Int).toNat = bs.length by omega, ← he]
theorem readR_bad {bs : List Nat} (hb : ∀ b ∈ bs, b < 256) (h : lenN (manyL bs) (getL bs).2 = none) : readR bs = none := by
  rcases hr : readR bs with _ | us
  · rfl
  · exfalso
    obtain ⟨hpg, hall, hw, hlen⟩ := readR_some hb hr
    rcases h0 : Pk.get 0 0 bs with _ | ⟨m, r0⟩
    · rw [readR_none (by unfold parseP; rw [h0])] at hr; cases hr
    · rcases hp : parseP bs with _ | ⟨us', x⟩
      · rw [readR_none hp] at hr; cases hr
      · have hpn : parseN m r0 = some (us', x) := by unfold parseP at hp; rw [h0] at hp; exact hp
        have hus' : us' = us := by
          rcases hz : zerosB x
          · rw [readR_not hp hz] at hr; cases hr
          · rw [readR_yes hpg.1 hp hz] at hr; exact Option.some.inj hr
        subst hus'
        have hm : us'.length = m := (parseN_some (fun b hh => hb b (by rw [(get_split hb h0).1]; exact List.mem_append_right _ hh)) hpn).1
        have hl := lenN_of hpn
        have e0 := getL_some h0
        have e : manyL bs = m := by unfold manyL; rw [e0]; show min m 256 = m; omega
        rw [e, e0] at h
        have h : lenN m r0 = none := h
        rw [hl] at h
        cases h
end Go.Proofs.Ytaocppgekinocaa
