/- The plain mathematics of CRC-32C: eight shifts by two lookups, that it is linear, and that it forgets nothing. No conditions. -/
set_option linter.unusedVariables false
set_option linter.unusedSimpArgs false
namespace Go.Proofs.YticjdjffmagdkaaDoor
namespace Crc

def poly : BitVec 32 := 0x82F63B78#32
def one (r : BitVec 32) : BitVec 32 := (r >>> 1) ^^^ (if r.getLsbD 0 then poly else 0#32)
def eight (r : BitVec 32) : BitVec 32 := one (one (one (one (one (one (one (one r)))))))
def byte (r : BitVec 32) (b : Nat) : BitVec 32 := eight (r ^^^ BitVec.ofNat 32 b)
def reg (r : BitVec 32) (bs : List Nat) : BitVec 32 := bs.foldl byte r
def more (s : BitVec 32) (bs : List Nat) : BitVec 32 := ~~~ (reg (~~~ s) bs)

/- linear -/
theorem one_xor (a b : BitVec 32) : one (a ^^^ b) = one a ^^^ one b := by
  unfold one
  rw [BitVec.getLsbD_xor, BitVec.ushiftRight_xor_distrib]
  cases a.getLsbD 0 <;> cases b.getLsbD 0 <;> simp
  · ac_rfl
  · ac_rfl
  · have : a >>> 1 ^^^ poly ^^^ (b >>> 1 ^^^ poly) = a >>> 1 ^^^ b >>> 1 ^^^ (poly ^^^ poly) := by ac_rfl
    rw [this]; simp
theorem eight_xor (a b : BitVec 32) : eight (a ^^^ b) = eight a ^^^ eight b := by
  unfold eight; simp only [one_xor]
theorem one_zero : one 0#32 = 0#32 := by decide
theorem eight_zero : eight 0#32 = 0#32 := by decide

/- nothing is forgotten -/
theorem one_eq_zero {z : BitVec 32} (h : one z = 0#32) : z = 0#32 := by
  unfold one at h
  by_cases h0 : z.getLsbD 0 = true
  · rw [if_pos h0] at h
    have h1 : (z >>> 1 ^^^ poly).getLsbD 31 = (0#32).getLsbD 31 := by rw [h]
    rw [BitVec.getLsbD_xor, BitVec.getLsbD_ushiftRight] at h1
    simp at h1
    exact absurd h1 (by decide)
  · rw [if_neg h0, BitVec.xor_zero] at h
    apply BitVec.eq_of_getLsbD_eq
    intro i hi
    rcases i with _ | i
    · simpa using h0
    · have h1 : (z >>> 1).getLsbD i = (0#32).getLsbD i := by rw [h]
      rw [BitVec.getLsbD_ushiftRight] at h1
      rw [Nat.add_comm i 1, h1]; simp
theorem one_inj {a b : BitVec 32} (h : one a = one b) : a = b := by
  have h1 : one (a ^^^ b) = 0#32 := by rw [one_xor, h]; simp
  exact BitVec.xor_eq_zero_iff.1 (one_eq_zero h1)
theorem eight_inj {a b : BitVec 32} (h : eight a = eight b) : a = b :=
  one_inj (one_inj (one_inj (one_inj (one_inj (one_inj (one_inj (one_inj h)))))))
theorem byte_inj {a b : BitVec 32} {n : Nat} (h : byte a n = byte b n) : a = b := by
  have h1 := eight_inj h
  have h2 : a ^^^ BitVec.ofNat 32 n ^^^ BitVec.ofNat 32 n = b ^^^ BitVec.ofNat 32 n ^^^ BitVec.ofNat 32 n := by rw [h1]
  simpa [BitVec.xor_assoc] using h2
theorem reg_inj : ∀ (bs : List Nat) {a b : BitVec 32}, reg a bs = reg b bs → a = b
  | [], _, _, h => h
  | n :: bs, a, b, h => byte_inj (reg_inj bs (a := byte a n) (b := byte b n) h)
theorem reg_append (r : BitVec 32) (a b : List Nat) : reg r (a ++ b) = reg (reg r a) b := by unfold reg; rw [List.foldl_append]
theorem more_append (s : BitVec 32) (a b : List Nat) : more s (a ++ b) = more (more s a) b := by
  unfold more; rw [reg_append, BitVec.not_not]
theorem more_nil (s : BitVec 32) : more s [] = s := by unfold more reg; simp
theorem not_inj {a b : BitVec 32} (h : ~~~ a = ~~~ b) : a = b := by
  have : ~~~ ~~~ a = ~~~ ~~~ b := by rw [h]
  simpa using this
theorem more_inj (bs : List Nat) {a b : BitVec 32} (h : more a bs = more b bs) : a = b := not_inj (reg_inj bs (not_inj h))

/- two bytes side by side, changed: another register behind them -/
theorem two_ne {x y : BitVec 32} (hx : x < 256#32) (hy : y < 256#32) (h : ¬ (x = 0#32 ∧ y = 0#32)) : eight x ^^^ y ≠ 0#32 := by
  intro h0
  have h1 : eight x = y := BitVec.xor_eq_zero_iff.1 h0
  have h2 : eight (eight x ^^^ y) = 0#32 := by rw [h0]; exact eight_zero
  have all : ∀ n : Fin 256, n.val ≠ 0 → ¬ (eight (BitVec.ofNat 32 n.val) < 256#32) := by decide +kernel
  have hxn : x.toNat < 256 := by simpa [BitVec.lt_def] using hx
  by_cases hx0 : x.toNat = 0
  · have : x = 0#32 := BitVec.eq_of_toNat_eq (by simpa using hx0)
    subst this
    rw [eight_zero] at h1
    exact h ⟨rfl, h1.symm⟩
  · refine all ⟨x.toNat, hxn⟩ hx0 ?_
    rw [BitVec.ofNat_toNat, BitVec.setWidth_eq, h1]
    exact hy

/- exclusive or, byte by byte, of three texts -/
def mix : List Nat → List Nat → List Nat → List Nat
  | a :: as, b :: bs, c :: cs => (a ^^^ b ^^^ c) :: mix as bs cs
  | _, _, _ => []
theorem ofNat_xor (a b : Nat) : BitVec.ofNat 32 (a ^^^ b) = BitVec.ofNat 32 a ^^^ BitVec.ofNat 32 b := by
  apply BitVec.eq_of_toNat_eq
  simp [Nat.xor_mod_two_pow (n := 32)]
theorem byte_mix (r s t : BitVec 32) (a b c : Nat) : byte (r ^^^ s ^^^ t) (a ^^^ b ^^^ c) = byte r a ^^^ byte s b ^^^ byte t c := by
  unfold byte
  rw [ofNat_xor, ofNat_xor, ← eight_xor, ← eight_xor]
  congr 1
  ac_rfl
theorem reg_mix : ∀ (as bs cs : List Nat) (r s t : BitVec 32), as.length = bs.length → bs.length = cs.length →
    reg (r ^^^ s ^^^ t) (mix as bs cs) = reg r as ^^^ reg s bs ^^^ reg t cs
  | [], [], [], _, _, _, _, _ => rfl
  | a :: as, b :: bs, c :: cs, r, s, t, h, k => by
    have ih := reg_mix as bs cs (byte r a) (byte s b) (byte t c) (by simpa using h) (by simpa using k)
    rw [← byte_mix] at ih
    exact ih
  | [], _ :: _, _, _, _, _, h, _ => by simp at h
  | _ :: _, [], _, _, _, _, h, _ => by simp at h
  | _, [], _ :: _, _, _, _, _, k => by simp at k
  | _, _ :: _, [], _, _, _, _, k => by simp at k
theorem more_mix (as bs cs : List Nat) (h : as.length = bs.length) (k : bs.length = cs.length) :
    more 0#32 (mix as bs cs) = more 0#32 as ^^^ more 0#32 bs ^^^ more 0#32 cs := by
  unfold more
  have e : (~~~ 0#32 : BitVec 32) = ~~~ 0#32 ^^^ ~~~ 0#32 ^^^ ~~~ 0#32 := by decide
  have hr := reg_mix as bs cs (~~~ 0#32) (~~~ 0#32) (~~~ 0#32) h k
  rw [← e] at hr
  rw [hr]
  generalize reg (~~~ 0#32) as = x
  generalize reg (~~~ 0#32) bs = y
  generalize reg (~~~ 0#32) cs = z
  apply BitVec.eq_of_getLsbD_eq
  intro i hi
  simp [hi]

/- a byte is two lookups -/
theorem split_mask (r m : BitVec 32) : r = (r &&& ~~~ m) ^^^ (r &&& m) := by
  apply BitVec.eq_of_getLsbD_eq
  intro i hi
  rw [BitVec.getLsbD_xor, BitVec.getLsbD_and, BitVec.getLsbD_and, BitVec.getLsbD_not]
  cases r.getLsbD i <;> cases m.getLsbD i <;> simp [hi]
theorem one_even {z : BitVec 32} (h : z.getLsbD 0 = false) : one z = z >>> 1 := by unfold one; rw [h]; simp
theorem eight_high {z : BitVec 32} (h : ∀ i, i < 8 → z.getLsbD i = false) : eight z = z >>> 8 := by
  unfold eight
  have s : ∀ k, k < 8 → one (z >>> k) = z >>> (k + 1) := by
    intro k hk
    rw [one_even (by rw [BitVec.getLsbD_ushiftRight]; exact h _ (by omega)), ← BitVec.shiftRight_add]
  have s0 : one z = z >>> 1 := one_even (h 0 (by omega))
  rw [s0, s 1 (by omega), s 2 (by omega), s 3 (by omega), s 4 (by omega), s 5 (by omega), s 6 (by omega), s 7 (by omega)]
def lowerT : List Nat := [0, 4067132163, 3778769143, 324072436, 3348797215, 904991772, 648144872, 3570033899, 2329499855, 2024987596, 1809983544, 2575936315, 1296289744, 3207089363, 2893594407, 1578318884]
def higherT : List Nat := [0, 274646895, 549293790, 820201905, 1098587580, 1361435347, 1640403810, 1905808397, 2197175160, 2460548119, 2722870694, 2987750089, 3280807620, 3553878443, 3811616794, 4084100981]
theorem table (n : Nat) (h : n < 256) : eight (BitVec.ofNat 32 n) = BitVec.ofNat 32 (lowerT.getD (n % 16) 0) ^^^ BitVec.ofNat 32 (higherT.getD (n / 16) 0) := by
  have all : ∀ n : Fin 256, eight (BitVec.ofNat 32 n.val) = BitVec.ofNat 32 (lowerT.getD (n.val % 16) 0) ^^^ BitVec.ofNat 32 (higherT.getD (n.val / 16) 0) := by decide +kernel
  exact all ⟨n, h⟩
theorem eight_split (r : BitVec 32) : eight r = r >>> 8 ^^^ eight (BitVec.ofNat 32 (r.toNat % 256)) := by
  have e : r = (r &&& ~~~ 255#32) ^^^ BitVec.ofNat 32 (r.toNat % 256) := by
    have hm : BitVec.ofNat 32 (r.toNat % 256) = r &&& 255#32 := by
      apply BitVec.eq_of_toNat_eq
      simp only [BitVec.toNat_ofNat, BitVec.toNat_and]
      rw [show (255 % 2 ^ 32 : Nat) = 2 ^ 8 - 1 from rfl, Nat.and_two_pow_sub_one_eq_mod]
      have := r.isLt
      omega
    rw [hm]
    exact split_mask r 255#32
  have h8 : eight (r &&& ~~~ 255#32) = r >>> 8 := by
    rw [eight_high]
    · apply BitVec.eq_of_getLsbD_eq
      intro i hi
      rw [BitVec.getLsbD_ushiftRight, BitVec.getLsbD_ushiftRight, BitVec.getLsbD_and, BitVec.getLsbD_not]
      by_cases hl : 8 + i < 32
      · have all : ∀ j : Fin 32, 8 ≤ j.val → (255#32).getLsbD j.val = false := by decide
        rw [all ⟨8 + i, hl⟩ (by simp)]
        simp [hl]
      · rw [BitVec.getLsbD_of_ge r (8 + i) (by omega)]; rfl
    · intro i hi
      have all : ∀ j : Fin 32, j.val < 8 → (255#32).getLsbD j.val = true := by decide
      rw [BitVec.getLsbD_and, BitVec.getLsbD_not, all ⟨i, by omega⟩ hi]
      cases r.getLsbD i <;> simp
  have : eight r = eight ((r &&& ~~~ 255#32) ^^^ BitVec.ofNat 32 (r.toNat % 256)) := by rw [← e]
  rw [this, eight_xor, h8]
theorem toNat_high (r : BitVec 32) (b : Nat) (hb : b < 256) : (r ^^^ BitVec.ofNat 32 b) >>> 8 = r >>> 8 := by
  rw [BitVec.ushiftRight_xor_distrib]
  have : BitVec.ofNat 32 b >>> 8 = 0#32 := by
    apply BitVec.eq_of_toNat_eq
    simp [Nat.shiftRight_eq_div_pow]
    omega
  rw [this]; simp
theorem xor_lt_256 {a b : Nat} (ha : a < 256) (hb : b < 256) : a ^^^ b < 256 := Nat.xor_lt_two_pow (n := 8) ha hb
theorem low_xor (r : BitVec 32) (b : Nat) (hb : b < 256) : (r ^^^ BitVec.ofNat 32 b).toNat % 256 = (r.toNat % 256) ^^^ b := by
  rw [BitVec.toNat_xor, BitVec.toNat_ofNat, show (256 : Nat) = 2 ^ 8 from rfl, Nat.xor_mod_two_pow, Nat.mod_eq_of_lt (show b < 2 ^ 32 by omega), Nat.mod_eq_of_lt (show b < 2 ^ 8 from hb)]
/-- What the project's text makes of a register and a byte. -/
theorem byte_table (r : BitVec 32) (b : Nat) (hb : b < 256) :
    (byte r b).toNat = (r.toNat / 256 ^^^ lowerT.getD (((r.toNat % 256) ^^^ b) % 16) 0) ^^^ higherT.getD (((r.toNat % 256) ^^^ b) / 16) 0 := by
  have hlt : ((r.toNat % 256) ^^^ b) < 256 := xor_lt_256 (Nat.mod_lt _ (by omega)) hb
  have hl : ∀ k : Fin 16, lowerT.getD k.val 0 < 2 ^ 32 := by decide
  have hh : ∀ k : Fin 16, higherT.getD k.val 0 < 2 ^ 32 := by decide
  unfold byte
  rw [eight_split, low_xor r b hb, toNat_high r b hb, table _ hlt]
  simp only [BitVec.toNat_xor, BitVec.toNat_ushiftRight, BitVec.toNat_ofNat, Nat.shiftRight_eq_div_pow]
  rw [Nat.mod_eq_of_lt (hl ⟨((r.toNat % 256) ^^^ b) % 16, Nat.mod_lt _ (by omega)⟩), Nat.mod_eq_of_lt (hh ⟨((r.toNat % 256) ^^^ b) / 16, by omega⟩)]
  exact (Nat.xor_assoc _ _ _).symm
end Crc
end Go.Proofs.YticjdjffmagdkaaDoor
