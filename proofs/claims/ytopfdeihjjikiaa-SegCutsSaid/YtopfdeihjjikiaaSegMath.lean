/- The plain mathematics of a checkpoint's parts: their bytes, how many, what they are read as, how they are joined. No conditions; no program. -/
import Derived.Test.YtopfdeihjjikiaaPackMath
set_option linter.unusedVariables false
set_option linter.unusedSimpArgs false
namespace Go.Proofs.Ytopfdeihjjikiaa.Sg

structure E where
  addr : Nat
  page : Nat
  dirty : Bool
  seq : Nat
structure OkE (e : E) : Prop where
  addr : e.addr < 18446744073709551616
  seq0 : 1 ≤ e.seq
  seq1 : e.seq ≤ 1099511627775
  page : e.page ≤ 255
/-- Entries that may be. -/
structure Ok (es : List E) : Prop where
  each : ∀ e ∈ es, OkE e
  rise : es.Pairwise fun a b => a.addr < b.addr
  pages : (es.map E.page).Nodup
  many : es.length ≤ 256
def pageN (e : E) : Nat := e.page + (if e.dirty then 32768 else 0)
def encE (e : E) : List Nat := Pk.fix e.addr 8 ++ (Pk.fix e.seq 5 ++ Pk.fix (pageN e) 2)
def ents : List E → List Nat
  | [] => []
  | e :: r => encE e ++ ents r
def sizeOk (s : Nat) : Prop := 128 ≤ s ∧ s ≤ 256
def each (s : Nat) : Nat := (s - 42) / 15
def parts (s n : Nat) : Nat := n / each s + (if n % each s ≠ 0 ∨ n = 0 then 1 else 0)
def front (i m : Nat) (nm : List Nat) (es : List E) : List Nat := Pk.fix i 2 ++ (Pk.fix m 2 ++ (es.length :: nm.length :: (nm ++ List.replicate (36 - nm.length) 0)))
def part (s i m : Nat) (nm : List Nat) (es : List E) : List Nat := front i m nm es ++ (ents es ++ List.replicate (s - 42 - 15 * es.length) 0)
def chunk (s : Nat) (es : List E) (i : Nat) : List E := (es.drop (i * each s)).take (each s)
def cut (s : Nat) (nm : List Nat) (es : List E) : List (List Nat) := (List.range (parts s es.length)).map fun i => part s i (parts s es.length) nm (chunk s es i)

/- lengths -/
theorem encE_len (e : E) : (encE e).length = 15 := by unfold encE; simp [Pk.fix_len]
theorem ents_len (es : List E) : (ents es).length = 15 * es.length := by
  induction es with
  | nil => rfl
  | cons e r ih => rw [ents, List.length_append, ih, encE_len, List.length_cons]; omega
theorem ents_append (a b : List E) : ents (a ++ b) = ents a ++ ents b := by
  induction a with
  | nil => rfl
  | cons e r ih => simp only [List.cons_append, ents, ih, List.append_assoc]
theorem front_len {i m : Nat} {nm : List Nat} {es : List E} (h : nm.length ≤ 36) : (front i m nm es).length = 42 := by
  unfold front
  simp [Pk.fix_len]
  omega
theorem each_bd {s : Nat} (h : sizeOk s) : 5 ≤ each s ∧ each s ≤ 14 ∧ 15 * each s ≤ s - 42 := by
  obtain ⟨h0, h1⟩ := h
  unfold each
  omega
theorem part_len {s i m : Nat} {nm : List Nat} {es : List E} (hs : sizeOk s) (hn : nm.length ≤ 36) (he : es.length ≤ each s) : (part s i m nm es).length = s := by
  have := each_bd hs
  have h0 := hs.1
  unfold part
  rw [List.length_append, List.length_append, front_len hn, ents_len, List.length_replicate]
  have : 15 * es.length ≤ 15 * each s := Nat.mul_le_mul_left _ he
  omega
theorem pageN_lt {e : E} (h : OkE e) : pageN e < 65536 := by
  have := h.page
  unfold pageN
  split <;> omega
theorem pageN_inj {e f : E} (h : OkE e) (g : OkE f) (hp : pageN e = pageN f) : e.page = f.page ∧ e.dirty = f.dirty := by
  have h1 := h.page
  have h2 := g.page
  unfold pageN at hp
  cases hd : e.dirty <;> cases hf : f.dirty <;> simp [hd, hf] at hp ⊢ <;> omega

/- one part alone -/
theorem fix_cancel {v u k : Nat} {x y : List Nat} (hv : v < 256 ^ k) (hu : u < 256 ^ k) (h : Pk.fix v k ++ x = Pk.fix u k ++ y) : v = u ∧ x = y := by
  obtain ⟨e1, e2⟩ := List.append_inj h (by rw [Pk.fix_len, Pk.fix_len])
  have := congrArg Pk.unfix e1
  rw [Pk.unfix_fix, Pk.unfix_fix, Nat.mod_eq_of_lt hv, Nat.mod_eq_of_lt hu] at this
  exact ⟨this, e2⟩
theorem encE_cancel {e f : E} {x y : List Nat} (h : OkE e) (g : OkE f) (hh : encE e ++ x = encE f ++ y) : e = f ∧ x = y := by
  unfold encE at hh
  simp only [List.append_assoc] at hh
  have p8 : (256 : Nat) ^ 8 = 18446744073709551616 := by decide
  have p5 : (256 : Nat) ^ 5 = 1099511627776 := by decide
  have p2 : (256 : Nat) ^ 2 = 65536 := by decide
  obtain ⟨e1, hh⟩ := fix_cancel (by rw [p8]; exact h.addr) (by rw [p8]; exact g.addr) hh
  obtain ⟨e2, hh⟩ := fix_cancel (by rw [p5]; have := h.seq1; omega) (by rw [p5]; have := g.seq1; omega) hh
  obtain ⟨e3, hx⟩ := fix_cancel (by rw [p2]; exact pageN_lt h) (by rw [p2]; exact pageN_lt g) hh
  obtain ⟨e4, e5⟩ := pageN_inj h g e3
  cases e
  cases f
  simp only at e1 e2 e4 e5
  subst e1 e2 e4 e5
  exact ⟨rfl, hx⟩
theorem ents_cancel : ∀ {es fs : List E} {x y : List Nat}, es.length = fs.length → (∀ e ∈ es, OkE e) → (∀ e ∈ fs, OkE e) → ents es ++ x = ents fs ++ y → es = fs ∧ x = y
  | [], [], x, y, _, _, _, h => ⟨rfl, h⟩
  | e :: es, f :: fs, x, y, hl, he, hf, h => by
    simp only [ents, List.append_assoc] at h
    obtain ⟨e1, h2⟩ := encE_cancel (he e (by simp)) (hf f (by simp)) h
    obtain ⟨e2, h3⟩ := ents_cancel (by simpa using hl) (fun k hk => he k (by simp [hk])) (fun k hk => hf k (by simp [hk])) h2
    exact ⟨by rw [e1, e2], h3⟩
  | [], _ :: _, _, _, hl, _, _, _ => by simp at hl
  | _ :: _, [], _, _, hl, _, _, _ => by simp at hl
/-- A part's bytes are of one number, one many, one label, one list of entries. -/
theorem part_inj {s t i j m k : Nat} {nm nn : List Nat} {es fs : List E} (hi : i < 65536) (hj : j < 65536) (hm : m < 65536) (hk : k < 65536) (he : ∀ e ∈ es, OkE e) (hf : ∀ e ∈ fs, OkE e)
    (h : part s i m nm es = part t j k nn fs) : i = j ∧ m = k ∧ nm = nn ∧ es = fs := by
  have p2 : (256 : Nat) ^ 2 = 65536 := by decide
  unfold part front at h
  simp only [List.append_assoc, List.cons_append] at h
  obtain ⟨e1, h⟩ := fix_cancel (by rw [p2]; exact hi) (by rw [p2]; exact hj) h
  obtain ⟨e2, h⟩ := fix_cancel (by rw [p2]; exact hm) (by rw [p2]; exact hk) h
  injection h with e3 h
  injection h with e4 h
  obtain ⟨e5, h⟩ := List.append_inj h e4
  subst e5
  obtain ⟨_, h⟩ := List.append_inj h rfl
  exact ⟨e1, e2, rfl, (ents_cancel e3 he hf h).1⟩
/-- What a part is, alone: number i of m, of that label and those entries. -/
structure IsPart (okN : List Nat → Prop) (bs : List Nat) (i m : Nat) (nm : List Nat) (es : List E) : Prop where
  size : sizeOk bs.length
  name : okN nm
  long : nm.length ≤ 36
  ok : Ok es
  num : i < m
  most : m < 65536
  few : es.length ≤ each bs.length
  full : i + 1 < m → es.length = each bs.length
  some_ : i + 1 = m → 0 < i → es ≠ []
  bytes : bs = part bs.length i m nm es
theorem IsPart.one {okN : List Nat → Prop} {bs nm nn : List Nat} {i j m k : Nat} {es fs : List E} (h : IsPart okN bs i m nm es) (g : IsPart okN bs j k nn fs) : i = j ∧ m = k ∧ nm = nn ∧ es = fs :=
  part_inj (by have := h.num; have := h.most; omega) (by have := g.num; have := g.most; omega) h.most g.most h.ok.each g.ok.each (h.bytes.symm.trans g.bytes)

/- all parts together -/
theorem parts_pos (s n : Nat) : 1 ≤ parts s n ∨ (n ≠ 0 ∧ n % each s = 0) := by
  unfold parts
  by_cases h : n % each s ≠ 0 ∨ n = 0
  · rw [if_pos h]; exact Or.inl (Nat.le_add_left 1 _)
  · right; omega
theorem parts_bd {s n : Nat} (hs : sizeOk s) : 1 ≤ parts s n ∧ n ≤ parts s n * each s ∧ (n = 0 ∨ (parts s n - 1) * each s < n) := by
  have hb := (each_bd hs).1
  have hd := Nat.div_add_mod n (each s)
  have hm := Nat.mod_lt n (show 0 < each s by omega)
  unfold parts
  by_cases h0 : n = 0
  · subst h0
    simp
  · by_cases hr : n % each s = 0
    · rw [if_neg (by omega)]
      rw [Nat.mul_comm] at hd
      have hq : 1 ≤ n / each s := by
        rcases Nat.eq_zero_or_pos (n / each s) with hz | hz
        · rw [hz] at hd; omega
        · exact hz
      refine ⟨by omega, by rw [Nat.add_zero]; omega, Or.inr ?_⟩
      rw [Nat.add_zero, Nat.sub_mul, Nat.one_mul]
      omega
    · rw [if_pos (Or.inl hr)]
      rw [Nat.mul_comm] at hd
      refine ⟨Nat.le_add_left 1 _, ?_, Or.inr ?_⟩
      · rw [Nat.add_mul, Nat.one_mul]; omega
      · rw [Nat.add_sub_cancel]; omega
theorem parts_few {s n : Nat} (hs : sizeOk s) (hn : n ≤ 256) : parts s n ≤ 257 := by
  have hb := (each_bd hs).1
  unfold parts
  have : n / each s ≤ n := Nat.div_le_self _ _
  split <;> omega
theorem parts_none (s : Nat) {n : Nat} (h : n = 0) : parts s n = 1 := by subst h; simp [parts]
theorem cut_len (s : Nat) (nm : List Nat) (es : List E) : (cut s nm es).length = parts s es.length := by unfold cut; simp
theorem cut_at {s : Nat} {nm : List Nat} {es : List E} {i : Nat} (h : i < parts s es.length) : (cut s nm es)[i]? = some (part s i (parts s es.length) nm (chunk s es i)) := by
  unfold cut
  rw [List.getElem?_map, List.getElem?_range h]; rfl
theorem chunk_few (s : Nat) (es : List E) (i : Nat) : (chunk s es i).length ≤ each s := by unfold chunk; rw [List.length_take]; omega
theorem chunk_len (s : Nat) (es : List E) (i : Nat) : (chunk s es i).length = min (each s) (es.length - i * each s) := by unfold chunk; rw [List.length_take, List.length_drop]
theorem Ok.sub {es fs : List E} (h : Ok es) (hs : fs.Sublist es) : Ok fs :=
  ⟨fun e he => h.each e (hs.subset he), h.rise.sublist hs, h.pages.sublist (hs.map _), Nat.le_trans hs.length_le h.many⟩
theorem chunk_sub (s : Nat) (es : List E) (i : Nat) : (chunk s es i).Sublist es := (List.take_sublist _ _).trans (List.drop_sublist _ _)
/-- Each of them is a part. -/
theorem cut_part {okN : List Nat → Prop} {s : Nat} {nm : List Nat} {es : List E} (hs : sizeOk s) (hn : okN nm) (hl : nm.length ≤ 36) (ho : Ok es) {i : Nat} (hi : i < parts s es.length) : IsPart okN (part s i (parts s es.length) nm (chunk s es i)) i (parts s es.length) nm (chunk s es i) := by
  have hlen := part_len (i := i) (m := parts s es.length) hs hl (chunk_few s es i)
  obtain ⟨b1, b2, b3⟩ := parts_bd (n := es.length) hs
  have hb := each_bd hs
  refine ⟨by rw [hlen]; exact hs, hn, hl, ho.sub (chunk_sub s es i), hi, by have := parts_few hs ho.many; omega, by rw [hlen]; exact chunk_few s es i, fun h => ?_, fun h h0 => ?_, by rw [hlen]⟩
  · rw [hlen, chunk_len]
    have h1 : (i + 1) * each s ≤ (parts s es.length - 1) * each s := Nat.mul_le_mul_right _ (by omega)
    rw [Nat.add_mul, Nat.one_mul] at h1
    rcases b3 with b3 | b3
    · have := parts_none s b3
      omega
    · omega
  · intro e
    have := congrArg List.length e
    rw [chunk_len] at this
    simp at this
    rcases b3 with b3 | b3
    · have := parts_none s b3
      omega
    · rw [← h, Nat.add_sub_cancel] at b3
      omega
/-- The chunks, one behind the other, are the entries. -/
theorem chunks_all {s : Nat} {es : List E} (hs : sizeOk s) : (List.range (parts s es.length)).flatMap (chunk s es) = es := by
  have gen : ∀ k, (List.range k).flatMap (chunk s es) = es.take (k * each s) := by
    intro k
    induction k with
    | zero => simp
    | succ k ih =>
      rw [List.range_succ, List.flatMap_append, ih, Nat.add_mul, Nat.one_mul, List.take_add]
      simp [chunk]
  rw [gen, List.take_of_length_le (parts_bd hs).2.1]
/-- Bytes are the parts of one label and one list of entries alone. -/
theorem cut_inj {s t : Nat} {nm nn : List Nat} {es fs : List E} (hs : sizeOk s) (ht : sizeOk t) (hl : nm.length ≤ 36) (hk : nn.length ≤ 36) (ho : Ok es) (hf : Ok fs) (h : cut s nm es = cut t nn fs) : s = t ∧ nm = nn ∧ es = fs := by
  have hlen : parts s es.length = parts t fs.length := by rw [← cut_len s nm es, ← cut_len t nn fs, h]
  have p0 := (parts_bd (n := es.length) hs).1
  have pf := parts_few hs ho.many
  have pg := parts_few ht hf.many
  have hat : ∀ i, i < parts s es.length → part s i (parts s es.length) nm (chunk s es i) = part t i (parts t fs.length) nn (chunk t fs i) := fun i hi => by
    have e1 := cut_at (nm := nm) hi
    have e2 := cut_at (s := t) (nm := nn) (es := fs) (i := i) (by omega)
    rw [h, e2] at e1
    exact (Option.some.inj e1).symm
  have hst : s = t := by
    have e := congrArg List.length (hat 0 (by omega))
    rwa [part_len hs hl (chunk_few s es 0), part_len ht hk (chunk_few t fs 0)] at e
  subst hst
  have hp : ∀ i, i < parts s es.length → nm = nn ∧ chunk s es i = chunk s fs i := fun i hi => by
    obtain ⟨_, _, e3, e4⟩ := part_inj (by omega) (by omega) (by omega) (by omega) (ho.sub (chunk_sub s es i)).each (hf.sub (chunk_sub s fs i)).each (hat i hi)
    exact ⟨e3, e4⟩
  refine ⟨rfl, (hp 0 (by omega)).1, ?_⟩
  rw [← chunks_all (es := es) hs, ← chunks_all (es := fs) hs, ← hlen]
  have : ∀ k, k ≤ parts s es.length → (List.range k).flatMap (chunk s es) = (List.range k).flatMap (chunk s fs) := by
    intro k
    induction k with
    | zero => intro _; rfl
    | succ k ih =>
      intro hk
      rw [List.range_succ, List.flatMap_append, List.flatMap_append, ih (by omega)]
      simp [(hp k (by omega)).2]
  exact this _ (Nat.le_refl _)
/-- What parts are joined to. -/
def Joins (okN : List Nat → Prop) (bs : List (List Nat)) (nm : List Nat) (es : List E) : Prop := ∃ s, sizeOk s ∧ okN nm ∧ nm.length ≤ 36 ∧ Ok es ∧ bs = cut s nm es
theorem Joins.one {okN : List Nat → Prop} {bs : List (List Nat)} {nm nn : List Nat} {es fs : List E} (h : Joins okN bs nm es) (g : Joins okN bs nn fs) : nm = nn ∧ es = fs := by
  obtain ⟨s, h1, h2, h3, h4, h5⟩ := h
  obtain ⟨t, g1, g2, g3, g4, g5⟩ := g
  exact (cut_inj h1 g1 h3 g3 h4 g4 (h5.symm.trans g5)).2
/-- In what is joined each part has its place as its number, and how many there are as its many. -/
theorem Joins.at_ {okN : List Nat → Prop} {bs : List (List Nat)} {nm : List Nat} {es : List E} (h : Joins okN bs nm es) {i : Nat} {b : List Nat} (hb : bs[i]? = some b) : ∃ fs, IsPart okN b i bs.length nm fs := by
  obtain ⟨s, h1, h2, h3, h4, rfl⟩ := h
  have hi : i < parts s es.length := by
    rcases Nat.lt_or_ge i (cut s nm es).length with h' | h'
    · rwa [cut_len] at h'
    · rw [List.getElem?_eq_none h'] at hb; cases hb
  rw [cut_at hi] at hb
  obtain rfl := Option.some.inj hb
  rw [cut_len]
  exact ⟨_, cut_part h1 h2 h3 h4 hi⟩
theorem Joins.some_ {okN : List Nat → Prop} {bs : List (List Nat)} {nm : List Nat} {es : List E} (h : Joins okN bs nm es) : bs ≠ [] := by
  obtain ⟨s, h1, h2, h3, h4, rfl⟩ := h
  intro e
  have := congrArg List.length e
  rw [cut_len] at this
  have := (parts_bd (n := es.length) h1).1
  simp at *
  omega
/-- A part that stands at another place than its number, or among more or fewer than its many, is joined to nothing. -/
theorem not_joins {okN : List Nat → Prop} {bs : List (List Nat)} {i j m : Nat} {b nm : List Nat} {es : List E} (hb : bs[i]? = some b) (hp : IsPart okN b j m nm es) (h : i ≠ j ∨ m ≠ bs.length) : ¬ ∃ nn fs, Joins okN bs nn fs := by
  rintro ⟨nn, fs, hj⟩
  obtain ⟨gs, hg⟩ := hj.at_ hb
  obtain ⟨e1, e2, _⟩ := hp.one hg
  omega
/-- Two parts of two labels are joined to nothing. -/
theorem not_joins_names {okN : List Nat → Prop} {bs : List (List Nat)} {i j : Nat} {b c nm nn : List Nat} {es fs : List E} {m m' : Nat} {i' j' : Nat} (hb : bs[i]? = some b) (hc : bs[j]? = some c) (hp : IsPart okN b i' m nm es) (hq : IsPart okN c j' m' nn fs) (h : nm ≠ nn) : ¬ ∃ nn fs, Joins okN bs nn fs := by
  rintro ⟨no, gs, hj⟩
  obtain ⟨_, h1⟩ := hj.at_ hb
  obtain ⟨_, h2⟩ := hj.at_ hc
  obtain ⟨_, _, e1, _⟩ := hp.one h1
  obtain ⟨_, _, e2, _⟩ := hq.one h2
  exact h (e1.trans e2.symm)

/- one part exchanged for the other list's -/
def mix (s : Nat) (es fs : List E) (k : Nat) : List E := es.take (k * each s) ++ (chunk s fs k ++ es.drop ((k + 1) * each s))
theorem chunk_at (s : Nat) (es : List E) (i q : Nat) : (chunk s es i)[q]? = if q < each s then es[i * each s + q]? else none := by
  unfold chunk
  by_cases h : q < each s
  · rw [List.getElem?_take_of_lt h, List.getElem?_drop, if_pos h]
  · rw [if_neg h, List.getElem?_eq_none (by rw [List.length_take]; omega)]
theorem mix_at {s : Nat} {es fs : List E} {k : Nat} (hl : es.length = fs.length) (hk : k * each s ≤ es.length) (j : Nat) : (mix s es fs k)[j]? = if k * each s ≤ j ∧ j < (k + 1) * each s then fs[j]? else es[j]? := by
  have e1 : (k + 1) * each s = k * each s + each s := by rw [Nat.add_mul, Nat.one_mul]
  have l1 : (es.take (k * each s)).length = k * each s := by rw [List.length_take]; omega
  have l2 : (chunk s fs k).length = min (each s) (fs.length - k * each s) := chunk_len s fs k
  unfold mix
  by_cases h1 : j < k * each s
  · rw [List.getElem?_append_left (by omega), List.getElem?_take_of_lt h1, if_neg (by omega)]
  · rw [List.getElem?_append_right (by omega), l1]
    by_cases h2 : j < (k + 1) * each s
    · rw [if_pos ⟨by omega, h2⟩]
      by_cases h3 : j - k * each s < (chunk s fs k).length
      · rw [List.getElem?_append_left h3, chunk_at, if_pos (by omega), show k * each s + (j - k * each s) = j by omega]
      · rw [List.getElem?_append_right (by omega), List.getElem?_drop]
        rw [l2] at h3
        rw [List.getElem?_eq_none (by omega), List.getElem?_eq_none (by omega)]
    · rw [if_neg (by omega)]
      by_cases h4 : j < es.length
      · rw [List.getElem?_append_right (by omega), List.getElem?_drop]
        congr 1
        omega
      · rw [List.getElem?_append_right (by omega), List.getElem?_drop, List.getElem?_eq_none (by omega), List.getElem?_eq_none (by omega)]
theorem mix_len {s : Nat} {es fs : List E} {k : Nat} (hl : es.length = fs.length) (hk : k * each s ≤ es.length) : (mix s es fs k).length = es.length := by
  have e1 : (k + 1) * each s = k * each s + each s := by rw [Nat.add_mul, Nat.one_mul]
  unfold mix
  rw [List.length_append, List.length_append, chunk_len, List.length_take, List.length_drop]
  omega
theorem mix_chunk {s : Nat} {es fs : List E} {k : Nat} (hl : es.length = fs.length) (hk : k * each s ≤ es.length) (i : Nat) : chunk s (mix s es fs k) i = if i = k then chunk s fs i else chunk s es i := by
  apply List.ext_getElem?
  intro q
  have e1 : (k + 1) * each s = k * each s + each s := by rw [Nat.add_mul, Nat.one_mul]
  rw [chunk_at]
  by_cases hq : q < each s
  · rw [if_pos hq, mix_at hl hk]
    by_cases hi : i = k
    · subst hi
      rw [if_pos rfl, chunk_at, if_pos hq, if_pos (by omega)]
    · rw [if_neg hi, chunk_at, if_pos hq, if_neg ?_]
      rintro ⟨h1, h2⟩
      rcases Nat.lt_or_gt_of_ne hi with h | h
      · have := Nat.mul_le_mul_right (each s) (show i + 1 ≤ k by omega)
        rw [Nat.add_mul, Nat.one_mul] at this
        omega
      · have := Nat.mul_le_mul_right (each s) (show k + 1 ≤ i by omega)
        omega
  · rw [if_neg hq]
    by_cases hi : i = k
    · rw [if_pos hi, chunk_at, if_neg hq]
    · rw [if_neg hi, chunk_at, if_neg hq]
/-- The parts of the mixed list. -/
theorem mix_cut {s : Nat} {nm : List Nat} {es fs : List E} {k : Nat} (hl : es.length = fs.length) (hk : k * each s ≤ es.length) (hp : k < parts s es.length) : (cut s nm es).set k (part s k (parts s fs.length) nm (chunk s fs k)) = cut s nm (mix s es fs k) := by
  have hm := mix_len hl hk
  apply List.ext_getElem?
  intro i
  by_cases hi : i < parts s es.length
  · rw [cut_at (by rw [hm]; exact hi), mix_chunk hl hk, hm]
    by_cases h : i = k
    · subst h
      rw [if_pos rfl, List.getElem?_set_self (by rw [cut_len]; exact hi), hl]
    · rw [if_neg h, List.getElem?_set_ne (fun e => h e.symm), cut_at hi]
  · rw [List.getElem?_eq_none (by rw [List.length_set, cut_len]; omega), List.getElem?_eq_none (by rw [cut_len, hm]; omega)]
theorem mix_map {β : Type} (f : E → β) {s : Nat} {es fs : List E} {k : Nat} (hl : es.length = fs.length) (hk : k * each s ≤ es.length) (h : es.map f = fs.map f) : (mix s es fs k).map f = es.map f := by
  apply List.ext_getElem?
  intro j
  have hj := congrArg (fun l => l[j]?) h
  simp only [List.getElem?_map] at hj ⊢
  rw [mix_at hl hk]
  split
  · exact hj.symm
  · rfl
theorem mix_mem {s : Nat} {es fs : List E} {k : Nat} {e : E} (h : e ∈ mix s es fs k) : e ∈ es ∨ e ∈ fs := by
  unfold mix at h
  rcases List.mem_append.1 h with h | h
  · exact Or.inl (List.mem_of_mem_take h)
  · rcases List.mem_append.1 h with h | h
    · exact Or.inr ((chunk_sub s fs k).subset h)
    · exact Or.inl (List.mem_of_mem_drop h)
/-- Lists that differ in their Seqs alone are mixed to one that may be. -/
theorem mix_ok {s : Nat} {es fs : List E} {k : Nat} (ho : Ok es) (hf : Ok fs) (hl : es.length = fs.length) (hk : k * each s ≤ es.length) (ha : es.map E.addr = fs.map E.addr) (hp : es.map E.page = fs.map E.page) : Ok (mix s es fs k) := by
  refine ⟨fun e he => ?_, ?_, ?_, by rw [mix_len hl hk]; exact ho.many⟩
  · rcases mix_mem he with h | h
    · exact ho.each e h
    · exact hf.each e h
  · have h1 := ho.rise
    have e1 : (es.map E.addr).Pairwise (· < ·) := List.pairwise_map.2 h1
    rw [← mix_map E.addr hl hk ha] at e1
    exact List.pairwise_map.1 e1
  · rw [mix_map E.page hl hk hp]; exact ho.pages
end Go.Proofs.Ytopfdeihjjikiaa.Sg
