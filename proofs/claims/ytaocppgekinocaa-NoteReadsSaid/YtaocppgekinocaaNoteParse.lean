/- What bytes are read as, as plain mathematics: notes one behind the other, whether they may be. Conditions: bytes. -/
import Derived.Test.YtaocppgekinocaaNoteLay
set_option linter.unusedVariables false
set_option linter.unusedSimpArgs false
namespace Go.Proofs.Ytaocppgekinocaa
open Go.RowKit

/- numbers -/
theorem get_lt64 {l : List Nat} : ∀ {i acc v : Nat} {r : List Nat}, i ≤ 9 → acc < 128 ^ i → Pk.get i acc l = some (v, r) → v < 18446744073709551616 := by
  induction l with
  | nil => intro i acc v r _ _ h; rw [Pk.get_nil] at h; cases h
  | cons b l ih =>
    intro i acc v r hi ha h
    have hpw : (128 : Nat) ^ i ≤ 128 ^ 9 := Nat.pow_le_pow_right (by omega) hi
    rw [Pk.pow9] at hpw
    by_cases h9 : i = 9 ∧ 1 < b
    · rw [Pk.get_over h9.1 h9.2] at h; cases h
    · by_cases h8 : 128 ≤ b
      · rw [Pk.get_on h9 h8] at h
        exact ih (by omega) (step_lt ha) h
      · by_cases h0 : b = 0 ∧ 0 < i
        · rw [h0.1, Pk.get_zero h0.2] at h; cases h
        · rw [Pk.get_end h9 (by omega) h0] at h
          injection h with h; injection h with h1 h2
          subst h1
          by_cases hi9 : i = 9
          · subst hi9
            have hb : b ≤ 1 := by omega
            rw [Pk.pow9] at ha ⊢
            omega
          · have h1 : (128 : Nat) ^ (i + 1) ≤ 128 ^ 9 := Nat.pow_le_pow_right (by omega) (by omega)
            rw [Pk.pow9] at h1
            have := step_lt (b := b) ha
            rw [Nat.mod_eq_of_lt (show b < 128 by omega)] at this
            omega
theorem get_split {l r : List Nat} {v : Nat} (hb : ∀ b ∈ l, b < 256) (h : Pk.get 0 0 l = some (v, r)) : l = Pk.put v ++ r ∧ v < 18446744073709551616 := by
  obtain ⟨u, e1, e2, _⟩ := Pk.get_some hb (by omega) h
  rw [Nat.zero_add, Nat.pow_zero, Nat.mul_one] at e2
  subst e2
  exact ⟨e1, get_lt64 (by omega) (by decide) h⟩
/-- A number is got from the first ten bytes alone. -/
theorem get_few {l : List Nat} : ∀ {i acc : Nat}, i ≤ 9 → Pk.get i acc l = (Pk.get i acc (l.take (10 - i))).map fun (v, r) => (v, r ++ l.drop (10 - i)) := by
  induction l with
  | nil => intro i acc _; rw [List.take_nil, Pk.get_nil]; rfl
  | cons b l ih =>
    intro i acc hi
    obtain ⟨j, hj⟩ : ∃ j, 10 - i = j + 1 := ⟨9 - i, by omega⟩
    rw [hj, List.take_succ_cons, List.drop_succ_cons]
    by_cases h9 : i = 9 ∧ 1 < b
    · rw [Pk.get_over h9.1 h9.2, Pk.get_over h9.1 h9.2]; rfl
    · by_cases h8 : 128 ≤ b
      · rw [Pk.get_on h9 h8, Pk.get_on h9 h8, ih (by omega), show 10 - (i + 1) = j by omega]
      · by_cases h0 : b = 0 ∧ 0 < i
        · rw [h0.1, Pk.get_zero h0.2, Pk.get_zero h0.2]; rfl
        · rw [Pk.get_end h9 (by omega) h0, Pk.get_end h9 (by omega) h0]
          simp only [Option.map_some]
          rw [List.take_append_drop]
theorem first_none {l : List Nat} (h : Pk.get 0 0 (l.take 10) = none) : Pk.get 0 0 l = none := by rw [get_few (by omega), h]; rfl
theorem first_some {l r : List Nat} {v : Nat} (hb : ∀ b ∈ l, b < 256) (h : Pk.get 0 0 (l.take 10) = some (v, r)) : r.length ≤ (l.take 10).length ∧ Pk.get 0 0 l = some (v, l.drop ((l.take 10).length - r.length)) := by
  obtain ⟨e, _⟩ := get_split (fun b hh => hb b (List.mem_of_mem_take hh)) h
  have hl := congrArg List.length e
  rw [List.length_append] at hl
  refine ⟨by omega, ?_⟩
  rw [get_few (by omega), h]
  simp only [Option.map_some, Nat.sub_zero]
  congr 2
  have e2 : l = Pk.put v ++ (r ++ l.drop 10) := by rw [← List.append_assoc, ← e, List.take_append_drop]
  rw [show (l.take 10).length - r.length = (Pk.put v).length by omega]
  conv => rhs; rw [e2, List.drop_left]

/- one note -/
def wrapS (s : Nat) : Int := IntKind.i64.wrap (s : Int)
theorem wrapS_small {s : Nat} (h : s < 9223372036854775808) : wrapS s = (s : Int) := by unfold wrapS; rw [IntKind.wrap_i64]; omega
theorem wrapS_nonneg {s : Nat} (h : s < 18446744073709551616) (h0 : 0 ≤ wrapS s) : wrapS s = (s : Int) := by unfold wrapS at h0 ⊢; rw [IntKind.wrap_i64] at h0 ⊢; omega
theorem wrapS_bd (s : Nat) : -9223372036854775808 ≤ wrapS s ∧ wrapS s ≤ 9223372036854775807 := by unfold wrapS; rw [IntKind.wrap_i64]; omega
def goneV (a s : Nat) : V := ⟨true, (a : Int), 0, false, wrapS s⟩
def hereV (a s k p : Nat) : V := ⟨false, (a : Int), wrapS p, k == 2, wrapS s⟩
def parse1 (bs : List Nat) : Option (V × List Nat) :=
  match Pk.get 0 0 bs with
  | none => none
  | some (a, r1) => match Pk.get 0 0 r1 with
    | none => none
    | some (_, []) => none
    | some (s, k :: r3) => if 2 < k then none else if k = 0 then some (goneV a s, r3) else match Pk.get 0 0 r3 with
      | none => none
      | some (p, r4) => some (hereV a s k p, r4)
section
variable {bs r1 r3 r4 : List Nat} {a s k p : Nat}
theorem parse1_a (h : Pk.get 0 0 bs = none) : parse1 bs = none := by unfold parse1; rw [h]
theorem parse1_s (h : Pk.get 0 0 bs = some (a, r1)) (h1 : Pk.get 0 0 r1 = none) : parse1 bs = none := by unfold parse1; simp only [h, h1]
theorem parse1_e (h : Pk.get 0 0 bs = some (a, r1)) (h1 : Pk.get 0 0 r1 = some (s, [])) : parse1 bs = none := by unfold parse1; simp only [h, h1]
theorem parse1_k (h : Pk.get 0 0 bs = some (a, r1)) (h1 : Pk.get 0 0 r1 = some (s, k :: r3)) (hk : 2 < k) : parse1 bs = none := by unfold parse1; simp only [h, h1, if_pos hk]
theorem parse1_g (h : Pk.get 0 0 bs = some (a, r1)) (h1 : Pk.get 0 0 r1 = some (s, 0 :: r3)) : parse1 bs = some (goneV a s, r3) := by unfold parse1; simp [h, h1]
theorem parse1_p (h : Pk.get 0 0 bs = some (a, r1)) (h1 : Pk.get 0 0 r1 = some (s, k :: r3)) (hk : k ≤ 2) (h0 : k ≠ 0) (h3 : Pk.get 0 0 r3 = none) : parse1 bs = none := by
  unfold parse1; simp only [h, h1, if_neg (show ¬ 2 < k by omega), if_neg h0, h3]
theorem parse1_h (h : Pk.get 0 0 bs = some (a, r1)) (h1 : Pk.get 0 0 r1 = some (s, k :: r3)) (hk : k ≤ 2) (h0 : k ≠ 0) (h3 : Pk.get 0 0 r3 = some (p, r4)) : parse1 bs = some (hereV a s k p, r4) := by
  unfold parse1; simp only [h, h1, if_neg (show ¬ 2 < k by omega), if_neg h0, h3]
end
/-- What a note that was read comes from. -/
theorem parse1_some {bs r : List Nat} {v : V} (hb : ∀ b ∈ bs, b < 256) (h : parse1 bs = some (v, r)) : Wf v ∧ r.length + 3 ≤ bs.length ∧ (∀ b ∈ r, b < 256) ∧ (okB v = true → bs = Nt.enc (toN v) ++ r) := by
  rcases h0 : Pk.get 0 0 bs with _ | ⟨a, r1⟩
  · rw [parse1_a h0] at h; cases h
  obtain ⟨e1, l1⟩ := get_split hb h0
  have hb1 : ∀ b ∈ r1, b < 256 := fun b hh => hb b (by rw [e1]; exact List.mem_append_right _ hh)
  rcases h1 : Pk.get 0 0 r1 with _ | ⟨s, r2⟩
  · rw [parse1_s h0 h1] at h; cases h
  obtain ⟨e2, l2⟩ := get_split hb1 h1
  rcases r2 with _ | ⟨k, r3⟩
  · rw [parse1_e h0 h1] at h; cases h
  have hb3 : ∀ b ∈ r3, b < 256 := fun b hh => hb1 b (by rw [e2]; exact List.mem_append_right _ (List.mem_cons_of_mem _ hh))
  have n1 := Pk.put_pos a
  have n2 := Pk.put_pos s
  by_cases hk : 2 < k
  · rw [parse1_k h0 h1 hk] at h; cases h
  by_cases hk0 : k = 0
  · subst hk0
    rw [parse1_g h0 h1] at h
    injection h with h; injection h with h2 h3
    subst h2 h3
    have ws := wrapS_bd s
    refine ⟨⟨Int.natCast_nonneg _, by show (a : Int) ≤ _; omega, by show (-9223372036854775808 : Int) ≤ 0; omega, by show (0 : Int) ≤ _; omega, ws.1, ws.2⟩, ?_, hb3, fun ho => ?_⟩
    · rw [e1, e2, List.length_append, List.length_append, List.length_cons]; omega
    · have hs := (okB_out ho).1
      have hs : 1 ≤ wrapS s := hs
      have es := wrapS_nonneg l2 (by omega)
      rw [e1, e2, enc_eq]
      have e3 : (goneV a s).addr.toNat = a := by show ((a : Int)).toNat = a; omega
      have e4 : (goneV a s).seq.toNat = s := by show (wrapS s).toNat = s; rw [es]; omega
      rw [e3, e4, List.append_assoc, List.append_assoc]
      rfl
  · rcases h3 : Pk.get 0 0 r3 with _ | ⟨p, r4⟩
    · rw [parse1_p h0 h1 (by omega) hk0 h3] at h; cases h
    obtain ⟨e3, l3⟩ := get_split hb3 h3
    rw [parse1_h h0 h1 (by omega) hk0 h3] at h
    injection h with h; injection h with h4 h5
    subst h4 h5
    have ws := wrapS_bd s
    have wp := wrapS_bd p
    have n3 := Pk.put_pos p
    refine ⟨⟨Int.natCast_nonneg _, by show (a : Int) ≤ _; omega, wp.1, wp.2, ws.1, ws.2⟩, ?_, fun b hh => hb3 b (by rw [e3]; exact List.mem_append_right _ hh), fun ho => ?_⟩
    · rw [e1, e2, e3, List.length_append, List.length_append, List.length_cons, List.length_append]; omega
    · obtain ⟨hs, _, hp⟩ := okB_out ho
      have hs : 1 ≤ wrapS s := hs
      have hp : 0 ≤ wrapS p := by
        rcases hp with ⟨e, _⟩ | ⟨_, e, _⟩
        · cases e
        · exact e
      have es := wrapS_nonneg l2 (by omega)
      have ep := wrapS_nonneg l3 hp
      rw [e1, e2, e3, enc_eq]
      have e3 : (hereV a s k p).addr.toNat = a := by show ((a : Int)).toNat = a; omega
      have e4 : (hereV a s k p).seq.toNat = s := by show (wrapS s).toNat = s; rw [es]; omega
      have e5 : (hereV a s k p).page.toNat = p := by show (wrapS p).toNat = p; rw [ep]; omega
      have ek : Nt.kind (toN (hereV a s k p)) = k := by
        unfold Nt.kind toN hereV
        rcases (show k = 1 ∨ k = 2 by omega) with rfl | rfl <;> rfl
      rw [e3, e4, e5, ek, List.append_assoc, List.append_assoc]
      rfl
def ofN (n : Nt.N) : V := ⟨n.gone, (n.addr : Int), (n.page : Int), n.dirty, (n.seq : Int)⟩
theorem toN_ofN (n : Nt.N) : toN (ofN n) = n := by unfold toN ofN; simp
theorem ofN_toN {v : V} (h : okB v = true) (hw : Wf v) : ofN (toN v) = v := by
  obtain ⟨h1, _, h3⟩ := okB_out h
  have := hw.a0
  obtain ⟨g, a, p, d, s⟩ := v
  have h1 : 1 ≤ s := h1
  have hp : 0 ≤ p := by
    rcases h3 with ⟨_, e, _⟩ | ⟨_, e, _⟩
    · have e : p = 0 := e; omega
    · exact e
  have ha : 0 ≤ a := this
  unfold ofN toN
  simp only [V.mk.injEq, true_and]
  omega
theorem ofN_ok {n : Nt.N} (h : Nt.Ok n) : okB (ofN n) = true := by
  refine okB_yes ⟨by show (1 : Int) ≤ (n.seq : Int); have := h.seq0; omega, by show (n.seq : Int) ≤ _; have := h.seq1; omega, ?_⟩
  rcases e : n.gone
  · exact Or.inr ⟨e, by show (0 : Int) ≤ (n.page : Int); omega, by show (n.page : Int) ≤ _; have := h.page; omega⟩
  · obtain ⟨e1, e2⟩ := h.gone e
    exact Or.inl ⟨e, by show (n.page : Int) = 0; omega, e2⟩
theorem ofN_wf {n : Nt.N} (h : Nt.Ok n) : Wf (ofN n) := by
  have h1 := h.addr
  have h2 := h.page
  have h3 := h.seq1
  exact ⟨by show (0 : Int) ≤ (n.addr : Int); omega, by show (n.addr : Int) ≤ _; omega, by show _ ≤ (n.page : Int); omega, by show (n.page : Int) ≤ _; omega, by show _ ≤ (n.seq : Int); omega, by show (n.seq : Int) ≤ _; omega⟩
/-- What was laid is read. -/
theorem parse1_enc {n : Nt.N} (h : Nt.Ok n) (r : List Nat) : parse1 (Nt.enc n ++ r) = some (ofN n, r) := by
  have hs := h.seq1
  have hp := h.page
  unfold Nt.enc
  rcases e : n.gone
  · have hk : Nt.kind n = (if n.dirty then 2 else 1) := by unfold Nt.kind; rw [e]; rfl
    have g0 := Pk.get_put (v := n.addr) (Pk.put n.seq ++ (Nt.kind n :: (Pk.put n.page ++ r))) h.addr
    have g1 := Pk.get_put (v := n.seq) (Nt.kind n :: (Pk.put n.page ++ r)) (by omega)
    have g3 := Pk.get_put (v := n.page) r (by omega)
    have hk2 : Nt.kind n ≤ 2 ∧ Nt.kind n ≠ 0 := by rw [hk]; split <;> omega
    have := parse1_h g0 g1 hk2.1 hk2.2 g3
    simp only [List.append_assoc, List.cons_append]
    simp only [Bool.false_eq_true, if_false]
    rw [this]
    have : hereV n.addr n.seq (Nt.kind n) n.page = ofN n := by
      unfold hereV ofN
      rw [wrapS_small (by omega), wrapS_small (by omega), e]
      have : (Nt.kind n == 2) = n.dirty := by rw [hk]; cases n.dirty <;> rfl
      rw [this]
    rw [this]
  · have hk : Nt.kind n = 0 := by unfold Nt.kind; rw [e]; rfl
    obtain ⟨ep, ed⟩ := h.gone e
    have g0 := Pk.get_put (v := n.addr) (Pk.put n.seq ++ (0 :: r)) h.addr
    have g1 := Pk.get_put (v := n.seq) (0 :: r) (by omega)
    have := parse1_g g0 g1
    simp only [List.append_assoc, List.cons_append, hk, if_true, List.nil_append]
    rw [this]
    have : goneV n.addr n.seq = ofN n := by
      unfold goneV ofN
      rw [wrapS_small (by omega), e, ep, ed]; rfl
    rw [this]

/- so many notes -/
def parseN : Nat → List Nat → Option (List V × List Nat)
  | 0, bs => some ([], bs)
  | k + 1, bs => match parse1 bs with
    | none => none
    | some (v, r) => if okB v = true then (parseN k r).map fun (vs, x) => (v :: vs, x) else none
theorem parseN_zero (bs : List Nat) : parseN 0 bs = some ([], bs) := rfl
theorem parseN_bad {k : Nat} {bs : List Nat} (h : parse1 bs = none) : parseN (k + 1) bs = none := by rw [parseN, h]
theorem parseN_not {k : Nat} {bs r : List Nat} {v : V} (h : parse1 bs = some (v, r)) (ho : okB v = false) : parseN (k + 1) bs = none := by rw [parseN, h]; simp [ho]
theorem parseN_on {k : Nat} {bs r : List Nat} {v : V} (h : parse1 bs = some (v, r)) (ho : okB v = true) : parseN (k + 1) bs = (parseN k r).map fun (vs, x) => (v :: vs, x) := by rw [parseN, h]; simp [ho]
theorem parseN_some : ∀ {k : Nat} {bs r : List Nat} {vs : List V}, (∀ b ∈ bs, b < 256) → parseN k bs = some (vs, r) → vs.length = k ∧ bs = flatL vs ++ r ∧ allB vs = true ∧ (∀ v ∈ vs, Wf v)
  | 0, bs, r, vs, hb, h => by
    rw [parseN_zero] at h
    injection h with h; injection h with h1 h2
    subst h1 h2
    exact ⟨rfl, rfl, rfl, fun v hv => by cases hv⟩
  | k + 1, bs, r, vs, hb, h => by
    rcases h1 : parse1 bs with _ | ⟨v, r1⟩
    · rw [parseN_bad h1] at h; cases h
    · obtain ⟨hw, _, hb1, he⟩ := parse1_some hb h1
      rcases ho : okB v
      · rw [parseN_not h1 ho] at h; cases h
      · rw [parseN_on h1 ho] at h
        rcases h2 : parseN k r1 with _ | ⟨us, x⟩
        · rw [h2] at h; cases h
        · rw [h2] at h
          simp only [Option.map_some] at h
          injection h with h; injection h with h3 h4
          subst h3 h4
          obtain ⟨a1, a2, a3, a4⟩ := parseN_some hb1 h2
          refine ⟨by rw [List.length_cons, a1], ?_, ?_, ?_⟩
          · rw [he ho, a2]
            unfold flatL
            simp [Nt.flat, List.append_assoc]
          · unfold allB at a3 ⊢
            rw [List.all_cons, a3, ho]; rfl
          · intro u hu
            rcases List.mem_cons.1 hu with rfl | hu
            · exact hw
            · exact a4 u hu
theorem parseN_flat : ∀ (ns : List Nt.N) (r : List Nat), (∀ n ∈ ns, Nt.Ok n) → parseN ns.length (Nt.flat ns ++ r) = some (ns.map ofN, r)
  | [], r, _ => rfl
  | n :: ns, r, h => by
    have ih := parseN_flat ns r (fun k hk => h k (List.mem_cons_of_mem _ hk))
    have hn := h n (List.mem_cons_self ..)
    rw [List.length_cons, Nt.flat, List.append_assoc, parseN_on (parse1_enc hn _) (ofN_ok hn), ih]
    rfl

/- a page -/
def parseP (bs : List Nat) : Option (List V × List Nat) := match Pk.get 0 0 bs with
  | none => none
  | some (m, r) => parseN m r
def zerosB (bs : List Nat) : Bool := bs.all fun b => b == 0
theorem zerosB_iff {bs : List Nat} : zerosB bs = true ↔ bs = List.replicate bs.length 0 := by
  unfold zerosB
  rw [List.all_eq_true]
  constructor
  · intro h
    apply List.eq_replicate_iff.2
    exact ⟨rfl, fun b hb => by simpa using h b hb⟩
  · intro h b hb
    rw [h] at hb
    simp [(List.mem_replicate.1 hb).2]
/-- What Read answers. -/
def readR (bs : List Nat) : Option (List V) := if 128 ≤ bs.length ∧ bs.length ≤ 256 then (match parseP bs with
  | none => none
  | some (vs, r) => if zerosB r = true then some vs else none) else none
theorem readR_len {bs : List Nat} (h : ¬(128 ≤ bs.length ∧ bs.length ≤ 256)) : readR bs = none := if_neg h
theorem readR_none {bs : List Nat} (h : parseP bs = none) : readR bs = none := by unfold readR; rw [h]; split <;> rfl
theorem readR_not {bs r : List Nat} {vs : List V} (h : parseP bs = some (vs, r)) (hz : zerosB r = false) : readR bs = none := by unfold readR; rw [h]; simp [hz]
theorem readR_yes {bs r : List Nat} {vs : List V} (hl : 128 ≤ bs.length ∧ bs.length ≤ 256) (h : parseP bs = some (vs, r)) (hz : zerosB r = true) : readR bs = some vs := by unfold readR; rw [h, if_pos hl]; simp [hz]
theorem readR_some {bs : List Nat} {vs : List V} (hb : ∀ b ∈ bs, b < 256) (h : readR bs = some vs) : Nt.Page bs (vs.map toN) ∧ allB vs = true ∧ (∀ v ∈ vs, Wf v) ∧ vs.length ≤ 85 := by
  by_cases hl : 128 ≤ bs.length ∧ bs.length ≤ 256
  · rcases h0 : Pk.get 0 0 bs with _ | ⟨m, r⟩
    · rw [readR_none (by unfold parseP; rw [h0])] at h; cases h
    · obtain ⟨e1, l1⟩ := get_split hb h0
      rcases h1 : parseN m r with _ | ⟨us, x⟩
      · rw [readR_none (by unfold parseP; rw [h0]; exact h1)] at h; cases h
      · have hp : parseP bs = some (us, x) := by unfold parseP; rw [h0]; exact h1
        rcases hz : zerosB x
        · rw [readR_not hp hz] at h; cases h
        · rw [readR_yes hl hp hz] at h
          injection h with h
          subst h
          obtain ⟨a1, a2, a3, a4⟩ := parseN_some (fun b hh => hb b (by rw [e1]; exact List.mem_append_right _ hh)) h1
          have hz' := zerosB_iff.1 hz
          have he : bs = encL us ++ List.replicate x.length 0 := by
            rw [encL_eq, a1, List.append_assoc, ← hz', ← a2]; exact e1
          have hle := congrArg List.length he
          rw [List.length_append, List.length_replicate] at hle
          have hpg : Nt.Page bs (us.map toN) := by
            refine ⟨hl, all_ok a3 a4, by show (encL us).length ≤ _; omega, ?_⟩
            unfold Nt.page
            rw [show bs.length - (Nt.encs (us.map toN)).length = x.length by show bs.length - (encL us).length = _; omega]
            exact he
          refine ⟨hpg, a3, a4, ?_⟩
          have := Nt.page_few hpg
          rwa [List.length_map] at this
  · rw [readR_len hl] at h; cases h
theorem readR_page {bs : List Nat} {ns : List Nt.N} (h : Nt.Page bs ns) : readR bs = some (ns.map ofN) := by
  have hf := Nt.page_few h
  obtain ⟨hl, hok, hle, he⟩ := h
  obtain ⟨k, hk⟩ : ∃ k, k = bs.length - (Nt.encs ns).length := ⟨_, rfl⟩
  have e1 : bs = Pk.put ns.length ++ (Nt.flat ns ++ List.replicate k 0) := by
    rw [hk, ← List.append_assoc]; exact he
  have g0 : Pk.get 0 0 bs = some (ns.length, Nt.flat ns ++ List.replicate k 0) := by
    rw [e1]; exact Pk.get_put _ (by omega)
  refine readR_yes hl (r := List.replicate k 0) ?_ (zerosB_iff.2 (by rw [List.length_replicate]))
  unfold parseP
  rw [g0]
  exact parseN_flat ns _ hok
theorem map_ofN_toN {vs : List V} (h : allB vs = true) (hw : ∀ v ∈ vs, Wf v) : (vs.map toN).map ofN = vs := by
  rw [List.map_map]
  conv => rhs; rw [← List.map_id vs]
  apply List.map_congr_left
  intro v hv
  unfold allB at h
  rw [List.all_eq_true] at h
  exact ofN_toN (h v hv) (hw v hv)
/-- A page of notes is read as they. -/
theorem readR_laid {vs : List V} {k : Nat} (h : allB vs = true) (hw : ∀ v ∈ vs, Wf v) (h0 : 128 ≤ k) (h1 : k ≤ 256) (hf : (encL vs).length ≤ k) : readR (Nt.page k (vs.map toN)) = some vs := by
  have hl := Nt.page_len (k := k) (ns := vs.map toN) hf
  have := readR_page (bs := Nt.page k (vs.map toN)) (ns := vs.map toN) ⟨⟨by omega, by omega⟩, all_ok h hw, by rw [hl]; exact hf, by rw [hl]⟩
  rw [this, map_ofN_toN h hw]
end Go.Proofs.Ytaocppgekinocaa
