/- slices.BinarySearch of words. Conditions: a rising list of at most 4000. The landed isSpanned; put within a range over the map. Conditions: the list's cells; a range under way. The closure of takeList; slices.IndexFunc over things by it; slices.DeleteFunc where nothing is struck. Conditions: a list of at most 8000, the closure's variable. The landed mayList. Conditions: an ideal that stands so, a list's cells; at most 4000 addresses in the list, lists of things of at most 400. The landed takeList where no thing is struck. Conditions: an ideal that stands so, a list apart from it; at most 4000 addresses in the list, at most 900 there, lists of things of at most 400. The landed Take of a list of addresses where no thing is struck. Conditions: as takeList's. -/
import Derived.Test.YtfidamiomnohcaaSortI
import Derived.Test.YtfidamiomnohcaaIdRp
import Derived.Test.YtfidamiomnohcaaIdRange
import Derived.Test.YtfidamiomnohcaaIdAw
set_option linter.unusedVariables false
set_option linter.unusedSimpArgs false
set_option maxRecDepth 20000
namespace Go.Proofs.Ytfidamiomnohcaa
section
open Go.RowKit

/-- How many of a rising list lie below x. -/
def lowW (xs : List Int) (x : Int) : Nat := (xs.filter fun y => decide (y < x)).length
theorem lowW_le (xs : List Int) (x : Int) : lowW xs x ≤ xs.length := List.length_filter_le _ _
theorem lowW_lt : ∀ {xs : List Int} {x : Int}, Ris xs → ∀ {i : Nat}, i < xs.length → (xs.getD i 0 < x ↔ i < lowW xs x)
  | y :: r, x, h, i, hi => by
    obtain ⟨h1, h2⟩ := List.pairwise_cons.1 h
    by_cases hy : y < x
    · have e : lowW (y :: r) x = lowW r x + 1 := by
        unfold lowW; rw [List.filter_cons_of_pos (by simp [hy])]; rfl
      rw [e]
      cases i with
      | zero => exact ⟨fun _ => by omega, fun _ => hy⟩
      | succ i =>
        have := lowW_lt (x := x) h2 (i := i) (by simpa using hi)
        show r.getD i 0 < x ↔ _
        rw [this]; omega
    · have e : lowW (y :: r) x = 0 := by
        unfold lowW
        rw [List.length_eq_zero_iff, List.filter_eq_nil_iff]
        intro z hz
        rcases List.mem_cons.1 hz with rfl | hz
        · simpa using hy
        · have := h1 z hz
          simp; omega
      rw [e]
      constructor
      · intro hlt
        cases i with
        | zero => exact absurd hlt hy
        | succ i =>
          have hir : i < r.length := by simpa using hi
          have h3 : r.getD i 0 ∈ r := by rw [List.getD_eq_getElem?_getD, List.getElem?_eq_getElem hir]; exact List.getElem_mem hir
          have h4 := h1 _ h3
          have h5 : r.getD i 0 < x := hlt
          omega
      · intro h; omega
theorem lowW_mem {xs : List Int} {x : Int} (h : Ris xs) : decide (x ∈ xs) = (decide (lowW xs x < xs.length) && decide (xs.getD (lowW xs x) 0 = x)) := by
  rw [Bool.eq_iff_iff, Bool.and_eq_true, decide_eq_true_iff, decide_eq_true_iff, decide_eq_true_iff]
  constructor
  · intro hx
    obtain ⟨i, hi, e⟩ := List.mem_iff_getElem.1 hx
    have eg : ∀ {j : Nat} (hj : j < xs.length), xs.getD j 0 = xs[j] := fun {j} hj => by rw [List.getD_eq_getElem?_getD, List.getElem?_eq_getElem hj]; rfl
    have h1 : ¬ i < lowW xs x := fun q => by
      have := (lowW_lt h hi).2 q
      rw [eg hi, e] at this; omega
    have h2 : lowW xs x ≤ i := by omega
    have hl : lowW xs x < xs.length := by omega
    refine ⟨hl, ?_⟩
    have h3 : ¬ xs.getD (lowW xs x) 0 < x := fun q => by have := (lowW_lt h hl).1 q; omega
    by_cases e2 : lowW xs x = i
    · rw [e2, eg hi, e]
    · have h4 := List.pairwise_iff_getElem.1 h (lowW xs x) i hl hi (by omega)
      rw [e] at h4
      rw [eg hl] at h3
      omega
  · rintro ⟨h1, h2⟩
    rw [← h2, List.getD_eq_getElem?_getD, List.getElem?_eq_getElem h1]
    exact List.getElem_mem h1
set_option maxHeartbeats 8000000 in
theorem isnan2_any (x : Int) (w : World) : Calls Try.prog 72 #[.int .u64 x] w fun e w' => e = .returned (.bool false) ∧ w' = w := by
  go_enter Try.func72, Try.ntmps72
  go_wp2_with fail
  go_ret
  exact ⟨rfl, rfl⟩
set_option maxHeartbeats 8000000 in
theorem wsearch_any (A : Option Addr) (n c : Nat) (xs : List Int) (x : Int) (w : World) (hs : Ris xs) (hn : n ≤ 4000) (hA : wordK.Lie w w.heap.size A n xs) :
    Calls Try.prog 59 #[.slice A n c, .int .u64 x] w fun e w' => e = .returned (.tuple #[.int .i64 (lowW xs x : Nat), .bool (decide (x ∈ xs))]) ∧ w' = w := by
  have HL : Hid (xs.length = n) := hA.len
  have HA := Lib.hid hA
  have HLT : Hid (∀ i, i < n → (xs.getD i 0 < x ↔ i < lowW xs x)) := fun i hi => lowW_lt hs (by rw [HL.out]; exact hi)
  obtain ⟨q0, HQ⟩ : ∃ q, Hid (decide (x ∈ xs) = q) := ⟨_, rfl⟩
  have HM : Hid (q0 = (decide (lowW xs x < n) && decide (xs.getD (lowW xs x) 0 = x))) := by
    show _ = _; rw [← HQ.out, lowW_mem hs, HL.out]
  rw [HQ.out]
  have hk0 := lowW_le xs x
  rw [HL.out] at hk0
  obtain ⟨k, HK⟩ : ∃ k, Hid (lowW xs x = k) := ⟨_, rfl⟩
  rw [HK.out] at hk0 HM ⊢
  have HLT : Hid (∀ i, i < n → (xs.getD i 0 < x ↔ i < k)) := by rw [← HK.out]; exact HLT
  have CL : Hid (∀ y, Calls Try.prog 71 #[.int .u64 y, .int .u64 x] w fun e w' => e = .returned (.bool (decide (y < x))) ∧ w' = w) := fun y => less_any y x w
  have CN : Hid (∀ y, Calls Try.prog 72 #[.int .u64 y] w fun e w' => e = .returned (.bool false) ∧ w' = w) := fun y => isnan2_any y w
  clear hA hs
  go_enter Try.func59, Try.ntmps59
  go_wp2_with fail
  go_loopw [7, 8] (fun t7 t8 wr => ∃ i j : Nat, t7 = .int .i64 i ∧ t8 = .int .i64 j ∧ i ≤ k ∧ k ≤ j ∧ j ≤ n ∧ Hid (wr = w)) (fun t7 t8 _ => (intOf t8).toNat - (intOf t7).toNat)
  case atStart => exact ⟨0, n, rfl, rfl, Nat.zero_le _, hk0, Nat.le_refl _, rfl⟩
  case round =>
    obtain ⟨i, j, rfl, rfl, hik, hkj, hjn, HW⟩ := hrel
    rw [HW.out]
    by_cases hlt : i < j
    · obtain ⟨q, hq⟩ : ∃ q, q = (i + j) / 2 := ⟨_, rfl⟩
      have hltz : (i : Int) < (j : Int) := by omega
      have hqz : ((i : Int) + (j : Int)) / 2 = (q : Int) := by omega
      have hq1 : i ≤ q := by omega
      have hq2 : q < j := by omega
      have hqn : q < n := by omega
      clear hq
      obtain ⟨ad, rfl, _, hat⟩ := word_at HA.out hqn
      obtain ⟨y, HY⟩ : ∃ y, Hid (xs.getD q 0 = y) := ⟨_, rfl⟩
      rw [HY.out] at hat
      have hlx := HLT.out q hqn
      rw [HY.out] at hlx
      have i0 : (0 : Int) ≤ (q : Int) := by omega
      have i1 : (q : Int) < (n : Int) := by omega
      have C := Lib.hid (CL.out y)
      by_cases hv : y < x
      · have hqk : q < k := hlx.1 hv
        rw [decide_eq_true hv] at C
        go_wp2_with fail
        refine C.out.mono ?_
        rintro e w1 ⟨rfl, hw⟩
        rw [hw]
        go_wp2_with fail
        go_roundw
        case rel => exact ⟨q + 1, j, by go_num, rfl, hqk, hkj, hjn, Lib.hid trivial⟩
        case measure => simp [intOf]; omega
      · have hqk : k ≤ q := Nat.le_of_not_lt fun h => hv (hlx.2 h)
        rw [decide_eq_false hv] at C
        go_wp2_with fail
        refine C.out.mono ?_
        rintro e w1 ⟨rfl, hw⟩
        rw [hw]
        go_wp2_with fail
        go_roundw
        case rel => exact ⟨i, q, rfl, rfl, hik, hqk, by omega, Lib.hid trivial⟩
        case measure => simp [intOf]; omega
    · obtain rfl : i = k := by omega
      have hltz : ¬ (i : Int) < (j : Int) := by omega
      by_cases hin : i < n
      · have hinz : (i : Int) < (n : Int) := by omega
        have d0 : decide ((i : Int) < (n : Int)) = true := decide_eq_true hinz
        obtain ⟨ad, rfl, _, hat⟩ := word_at HA.out hin
        obtain ⟨y, HY⟩ : ∃ y, Hid (xs.getD i 0 = y) := ⟨_, rfl⟩
        have hm := HM.out
        rw [HY.out, decide_eq_true hin, Bool.true_and] at hm
        rw [HY.out] at hat
        have i0 : (0 : Int) ≤ (i : Int) := by omega
        have C := Lib.hid (CN.out y)
        have HMM := Lib.hid hm
        clear hm
        by_cases hy : y = x
        · subst hy
          have HM2 : Hid (q0 = true) := by show _ = _; rw [HMM.out, decide_eq_true rfl]
          go_wp2_with fail
          go_ret2
          rw [HM2.out]
          exact ⟨rfl, rfl⟩
        · have HM2 : Hid (q0 = false) := by show _ = _; rw [HMM.out, decide_eq_false hy]
          have hyb : (y == x) = false := beq_eq_false_iff_ne.2 hy
          go_wp2_with fail
          refine C.out.mono ?_
          rintro e w1 ⟨rfl, hw⟩
          rw [hw]
          go_wp2_with fail
          go_ret2
          rw [HM2.out]
          exact ⟨rfl, rfl⟩
      · have hinz : ¬ (i : Int) < (n : Int) := by omega
        have d0 : decide ((i : Int) < (n : Int)) = false := decide_eq_false hinz
        have HM2 : Hid (q0 = false) := by show _ = _; rw [HM.out, decide_eq_false hin]; rfl
        go_wp2_with fail
        go_ret2
        rw [HM2.out]
        exact ⟨rfl, rfl⟩
end

section
open Go.RowKit

/-- Does a list of at most m addresses from a on speak of v? -/
def spanT (a m : Int) (xs : List Int) (v : Int) : Bool := if v < a then false else if (xs.length : Int) < m then true else decide (0 < (xs.length : Int)) && decide (v ≤ xs.getD (xs.length - 1) 0)
set_option maxHeartbeats 8000000 in
theorem span_any (k a : Int) (A : Option Addr) (n c : Nat) (m : Int) (zA : Option Addr) (zn zc : Nat) (xs : List Int) (v : Int) (w : World) (hz : zn ≤ 4000) (hA : wordK.Lie w w.heap.size zA zn xs) :
    Calls Try.prog 58 #[.agg #[.int .i64 k, .int .u64 a, .slice A n c, .int .i64 m], .slice zA zn zc, .int .u64 v] w fun e w' => e = .returned (.bool (spanT a m xs v)) ∧ Below w.heap.size w w' := by
  obtain ⟨q, HQ⟩ : ∃ q, Hid (spanT a m xs v = q) := ⟨_, rfl⟩
  rw [HQ.out]
  have HL : Hid (xs.length = zn) := hA.len
  have hq := HQ.out
  unfold spanT at hq
  rw [HL.out] at hq
  have S0 : Hid (Below w.heap.size w (w.alloc (.cells #[.int .i64 k, .int .u64 a, .slice A n c, .int .i64 m] 32))) := (Below.refl _ _).alloc (Nat.le_refl _) _
  by_cases h1 : v < a
  · rw [if_pos h1] at hq
    have d1 : decide (v < a) = true := decide_eq_true h1
    have HQQ := Lib.hid hq.symm
    clear hq hA HQ
    go_enter Try.func58, Try.ntmps58
    go_wp2_with fail
    go_ret
    rw [HQQ.out]
    exact ⟨rfl, S0.out⟩
  · rw [if_neg h1] at hq
    have d1 : decide (v < a) = false := decide_eq_false h1
    by_cases h2 : (zn : Int) < m
    · rw [if_pos h2] at hq
      have d2 : decide ((zn : Int) < m) = true := decide_eq_true h2
      have HQQ := Lib.hid hq.symm
      clear hq hA HQ
      go_enter Try.func58, Try.ntmps58
      go_wp2_with fail
      go_ret
      rw [HQQ.out]
      exact ⟨rfl, S0.out⟩
    · rw [if_neg h2] at hq
      have d2 : decide ((zn : Int) < m) = false := decide_eq_false h2
      by_cases h3 : 0 < zn
      · have h3z : 0 < (zn : Int) := by omega
        have d3 : decide (0 < (zn : Int)) = true := decide_eq_true h3z
        rw [d3, Bool.true_and] at hq
        obtain ⟨ad, rfl, hb, hat⟩ := word_at hA (show zn - 1 < zn by omega)
        obtain ⟨y, HY⟩ : ∃ y, Hid (xs.getD (zn - 1) 0 = y) := ⟨_, rfl⟩
        rw [HY.out] at hat hq
        have hat2 : (w.alloc (.cells #[.int .i64 k, .int .u64 a, .slice A n c, .int .i64 m] 32)).cell? (ad.add (zn - 1)) = some (.int .u64 y) := cell_old hat
        obtain ⟨p, HP⟩ : ∃ p : Nat, Hid (zn - 1 = p) := ⟨_, rfl⟩
        rw [HP.out] at hat hat2
        have i0 : (zn : Int) - 1 = (p : Int) := by rw [← HP.out]; omega
        have i1 : (0 : Int) ≤ (p : Int) := by omega
        have i2 : (p : Int) < (zn : Int) := by rw [← HP.out]; omega
        have HQQ := Lib.hid hq
        clear hq hA
        go_enter Try.func58, Try.ntmps58
        go_wp2_with fail
        go_ret
        rw [← HQQ.out]
        exact ⟨by first | rfl | simp, S0.out⟩
      · obtain rfl : zn = 0 := by omega
        have hq2 : q = false := by rw [← hq]; rfl
        have HQQ := Lib.hid hq2
        clear hq hA hq2 HQ
        go_enter Try.func58, Try.ntmps58
        go_wp2_with fail
        go_ret
        rw [HQQ.out]
        exact ⟨rfl, S0.out⟩
section
variable {w : World} {base o r r2 n c : Nat} {fp : Nat → Prop} {s : IS} {L : IdL} {a : Int} {l : List Th} {ls : List Int} {b : Nat}
/-- What put leaves within a range over the map, at an address that has come. -/
def PutEndR (w : World) (base : Nat) (fp : Nat → Prop) (o : Nat) (s : IS) (L : IdL) (b r2 : Nat) (a : Int) (r c : Nat) (l : List Th) (ls : List Int) (e : Ending) (w' : World) : Prop :=
  e = .returned (.tuple #[]) ∧ Hid (IdIn w' base (putP fp r none) o (putS s a l) (putL L (some b) a r c)) ∧ Hid (RangeF w' b r2 (putS s a l).ks (elemOf (putS s a l) (putL L (some b) a r c)) ls) ∧ Hid (Turn (fun q => q = b) w w') ∧ Hid (w'.rangeLeft b r2 ≤ w.rangeLeft b r2)
theorem put_within (h : IdBut w base fp o s L (fun y => y = a)) (hmp : L.mp = some b) (hR : RangeF w b r2 s.ks (elemOf s L) ls) (ha : a ∈ s.ks) (hal : a ∉ ls) (hp : PutRow w base o s L a r n c l) (hn : n ≤ 8000) (hks : s.ks.length ≤ 999) (hb : base ≤ w.heap.size) (hom : ∀ q, L.mp = some q → o ≠ q) :
    Calls Try.prog 37 #[.pointer (some ⟨o, 0, none⟩), .int .u64 a, .slice (some ⟨r, 0, none⟩) n c] w (PutEndR w base fp o s L b r2 a r c l ls) := by
  have hu := h.ok.u64 a ha
  have hl := hp.row.len
  have h0 : 0 < n := by rw [← hl]; exact List.length_pos_iff.2 hp.lok.ne
  have hol := h.lt o h.fo
  have hc1 := h.c1
  rw [hmp] at hc1
  have hfl : ∀ b, (fp b ∨ b = r) → b < w.heap.size := fun b hq => hq.elim (h.lt b) fun e => e ▸ hp.lt
  have hne : ∀ q, L.mp = some q → q = b := fun q hq => by rw [hmp] at hq; exact (Option.some.inj hq).symm
  rcases hbl : isBlk l with _ | _
  · have hdis : ∀ y, y ∈ (putS s a l).ks ↔ y ≠ a ∧ y ∈ s.ks := fun y => by
      show y ∈ (if isBlk l then _ else strike s.ks a) ↔ _
      rw [if_neg (by rw [hbl]; simp)]; exact mem_strike
    have hdr := fun ty => hR.drop (ks' := (putS s a l).ks) hu hal ty (nodup_put h.ok a l) hdis
    obtain ⟨w1, hr1, hM, hg, hsz, hle⟩ := hdr 0
    have hr1' : ∀ ty, (Builtin.delete_ #[58, 29] ty #[.map (some b), .int .u64 a]).run Try.prog w = .ok (.tuple #[]) w1 := fun ty => hr1
    refine (put_del (a := a) w1 (some b) _ n c l hc1 h0 hn hp.row.lie hbl hr1').mono ?_
    rintro e w' ⟨rfl, hw⟩
    subst hw
    have hM2 : RangeF w' b r2 (putS s a l).ks (elemOf (putS s a l) (putL L (some b) a r c)) ls := hM.congr fun y hy => (elem_same s L (some b) a r c l ((hdis y).1 hy).1).symm
    refine ⟨rfl, ⟨IdBut.put h hu hp (some b) none (Nat.le_of_eq hsz.symm) (fun q hq _ hnm => grown_else hg (hfl q hq) (hnm b hmp)) hom ((grown_else hg hol (hom b hmp)).trans (by rw [← hmp]; exact h.obj)) (Or.inl hmp.symm) (fun m e => (by cases e)) hb (fun _ => hbl), fun q hq => ?_⟩, hM2, Turn.of_grown hg fun q hq => (Option.some.inj hq).symm, hle⟩
    have hq' : some b = some q := hq
    obtain rfl := Option.some.inj hq'
    exact hM2.map
  · have hins : (putS s a l).ks = s.ks := by
      refine ris_ext (put_ok h.ok hu hp.lok).ris h.ok.ris fun y => ?_
      show y ∈ (if isBlk l then insK s.ks a else _) ↔ _
      rw [if_pos hbl, mem_insK]
      exact ⟨fun q => q.elim (fun e => e ▸ ha) id, Or.inr⟩
    obtain ⟨w1, hr1, hM, hg, hsz, hle⟩ := hR.store ha (by omega) (some ⟨r, 0, none⟩) n c
    refine (put_upd (a := a) w1 b _ n c l hc1 h0 hn hp.row.lie hbl hr1).mono ?_
    rintro e w' ⟨rfl, hw⟩
    subst hw
    have hM2 : RangeF w' b r2 (putS s a l).ks (elemOf (putS s a l) (putL L (some b) a r c)) ls := by
      rw [hins, elem_put, hl]; exact hM
    refine ⟨rfl, ⟨IdBut.put h hu hp (some b) none (Nat.le_of_eq hsz.symm) (fun q hq _ hnm => grown_else hg (hfl q hq) (hnm b hmp)) hom ((grown_else hg hol (hom b hmp)).trans (by rw [← hmp]; exact h.obj)) (Or.inl hmp.symm) (fun m e => (by cases e)) hb (fun e => (by cases e)), fun q hq => ?_⟩, hM2, Turn.of_grown hg fun q hq => (Option.some.inj hq).symm, hle⟩
    have hq' : some b = some q := hq
    obtain rfl := Option.some.inj hq'
    exact hM2.map
end
end

section
open Go.RowKit

/-- Is a thing struck by a list that tells the address dirty, or not? -/
def hitT (b : Bool) (t : Th) : Bool := b != (t.k == 2)
theorem cell_since2 {w w' : World} (hb : Below w.heap.size w w') {p : Addr} {v : Value} (h : w.cell? p = some v) : w'.cell? p = some v := (Below.cell hb (World.block_lt_of_cell? w p h)).trans h
theorem hit_any (b : Bool) (k : Int) (d : ByteArray) (g : Nat) (w : World) (hc : w.cell? ⟨g, 0, none⟩ = some (.bool b)) :
    Calls Try.prog 61 #[.agg #[.int .i64 k, .string d], .pointer (some ⟨g, 0, none⟩)] w fun e w' => e = .returned (.bool (b != (k == 2))) ∧ Below w.heap.size w w' := by
  have hc2 : (w.alloc (.cells #[.int .i64 k, .string d] 85)).cell? ⟨g, 0, none⟩ = some (.bool b) := cell_old hc
  have S0 : Hid (Below w.heap.size w (w.alloc (.cells #[.int .i64 k, .string d] 85))) := (Below.refl _ _).alloc (Nat.le_refl _) _
  obtain ⟨q, HQ⟩ : ∃ q, Hid ((k == 2) = q) := ⟨_, rfl⟩
  have hq := HQ.out
  go_enter Try.func61, Try.ntmps61
  go_wp2_with fail
  go_ret
  refine ⟨?_, S0.out⟩
  simp [hq]
  clear HQ hq
  cases b <;> cases q <;> rfl
set_option maxHeartbeats 8000000 in
theorem index_any (b : Bool) (g : Nat) (A : Option Addr) (n c : Nat) (l : List Th) (w : World) (hn : n ≤ 8000) (hA : thK.Lie w w.heap.size A n l) (hc : w.cell? ⟨g, 0, none⟩ = some (.bool b)) :
    Calls Try.prog 73 #[.slice A n c, .func (.func 61) #[] #[.pointer (some ⟨g, 0, none⟩)]] w fun e w' =>
      ((∃ i : Nat, i < n ∧ hitT b (l.getD i Th.zero) = true ∧ (∀ j, j < i → hitT b (l.getD j Th.zero) = false) ∧ e = .returned (.int .i64 i)) ∨ ((∀ j, j < n → hitT b (l.getD j Th.zero) = false) ∧ e = .returned (.int .i64 (-1)))) ∧ Hid (Below w.heap.size w w') := by
  have HA := Lib.hid hA
  have HC := Lib.hid hc
  have HN := Lib.hid hn
  clear hA hc
  go_enter Try.func73, Try.ntmps73
  go_wp2_with fail
  go_loopw [8] (fun t8 wr => ∃ i : Nat, t8 = .int .i64 i ∧ i ≤ n ∧ Hid (∀ j, j < i → hitT b (l.getD j Th.zero) = false) ∧ Hid (Below w.heap.size w wr)) (fun t8 _ => n - (intOf t8).toNat)
  case atStart => exact ⟨0, rfl, Nat.zero_le _, fun j hj => absurd hj (Nat.not_lt_zero j), Below.refl _ _⟩
  case round =>
    obtain ⟨i, rfl, hin, HF, HB⟩ := hrel
    have i0 : (0 : Int) ≤ (i : Int) := by omega
    by_cases hlt : i < n
    · have i1 : (i : Int) < (n : Int) := by omega
      have i2 : (n : Int) ≤ 8000 := by omega
      obtain ⟨ad, rfl, hblk, hat⟩ := th_at (HA.out.below HB.out) hlt
      obtain ⟨⟨yk, yd⟩, HY⟩ : ∃ x, Hid (l.getD i Th.zero = x) := ⟨_, rfl⟩
      rw [HY.out] at hat
      have e0 := hat.c0
      have e1 := hat.c1
      dsimp only at e0 e1
      obtain ⟨sy, HSY⟩ : ∃ s, Hid (strB yd = s) := ⟨_, rfl⟩
      rw [HSY.out] at e1
      have C := Lib.hid (hit_any b yk sy g wr (cell_since2 HB.out HC.out))
      obtain ⟨q, HQ⟩ : ∃ q, Hid ((b != (yk == 2)) = q) := ⟨_, rfl⟩
      have HH : Hid (hitT b (l.getD i Th.zero) = q) := by show _ = _; rw [HY.out]; exact HQ.out
      rw [HQ.out] at C
      clear hat
      have HI : Hid (i < n) := hlt
      cases q
      · go_wp2_with fail
        refine C.out.mono ?_
        rintro e w1 ⟨rfl, hB⟩
        have HB1 := Lib.hid (below_chain HB.out hB)
        clear hB
        go_wp2_with fail
        go_roundw
        case rel => exact ⟨i + 1, by go_num, hlt, fun j hj => by
          by_cases e : j = i
          · rw [e]; exact HH.out
          · exact HF.out j (by omega), HB1⟩
        case measure => simp [intOf]; omega
      · go_wp2_with fail
        refine C.out.mono ?_
        rintro e w1 ⟨rfl, hB⟩
        have HB1 := Lib.hid (below_chain HB.out hB)
        clear hB
        go_wp2_with fail
        go_ret
        exact ⟨Or.inl ⟨i, HI.out, HH.out, HF.out, rfl⟩, HB1⟩
    · obtain rfl : i = n := by omega
      go_wp2_with fail
      go_ret
      exact ⟨Or.inr ⟨HF.out, rfl⟩, HB⟩
set_option maxHeartbeats 8000000 in
theorem delete_same (b : Bool) (g : Nat) (A : Option Addr) (n c : Nat) (l : List Th) (w : World) (hn : n ≤ 8000) (hA : thK.Lie w w.heap.size A n l) (hc : w.cell? ⟨g, 0, none⟩ = some (.bool b)) (hs : ∀ t ∈ l, hitT b t = false) :
    Calls Try.prog 60 #[.slice A n c, .func (.func 61) #[] #[.pointer (some ⟨g, 0, none⟩)]] w fun e w' => e = .returned (.slice A n c) ∧ Hid (Below w.heap.size w w') := by
  have C : Hid (Calls Try.prog 73 #[.slice A n c, .func (.func 61) #[] #[.pointer (some ⟨g, 0, none⟩)]] w fun e w' => e = .returned (.int .i64 (-1)) ∧ Hid (Below w.heap.size w w')) := by
    refine (index_any b g A n c l w hn hA hc).mono ?_
    rintro e w' ⟨⟨i, hi, hh, _⟩ | ⟨_, h⟩, hB⟩
    · have hl : i < l.length := by rw [hA.len]; exact hi
      rw [List.getD_eq_getElem?_getD, List.getElem?_eq_getElem hl] at hh
      have := hs _ (List.getElem_mem hl)
      simp only [Option.getD_some] at hh
      rw [this] at hh; cases hh
    · exact ⟨h, hB⟩
  clear hA hc hs
  go_enter Try.func60, Try.ntmps60
  go_wp2_with fail
  refine C.out.mono ?_
  rintro e w1 ⟨rfl, hB⟩
  go_wp2_with fail
  go_ret
  exact ⟨rfl, hB⟩
end

section
open Go.RowKit

/-- May this list of at most m addresses from a on be told? -/
structure MayL (s : IS) (a m : Int) (xs : List Int) : Prop where
  len : (xs.length : Int) ≤ m
  ris : Ris xs
  each : ∀ x ∈ xs, a ≤ x ∧ isDir (s.f x) = true
  all : ∀ x ∈ s.ks, isSure (s.f x) = true → spanT a m xs x = true → x ∈ xs
def MayOut (w : World) (s : IS) (a m : Int) (xs : List Int) (e : Ending) (w' : World) : Prop := ∃ v : Bool, e = .returned (.bool v) ∧ (v = true ↔ MayL s a m xs) ∧ Hid (Below w.heap.size w w')
/-- The first i are as they may be. -/
structure Fine (s : IS) (a : Int) (xs : List Int) (i : Nat) : Prop where
  inc : ∀ j k, j < k → k < i → xs.getD j 0 < xs.getD k 0
  each : ∀ j, j < i → a ≤ xs.getD j 0 ∧ isDir (s.f (xs.getD j 0)) = true
theorem gd_get {xs : List Int} {i : Nat} (h : i < xs.length) : xs.getD i 0 = xs[i] := by rw [List.getD_eq_getElem?_getD, List.getElem?_eq_getElem h]; rfl
theorem Fine.ris {s : IS} {a : Int} {xs : List Int} (h : Fine s a xs xs.length) : Ris xs := by
  refine List.pairwise_iff_getElem.2 fun i j hi hj hij => ?_
  rw [← gd_get hi, ← gd_get hj]
  exact h.inc i j hij hj
theorem Fine.all {s : IS} {a : Int} {xs : List Int} (h : Fine s a xs xs.length) : ∀ x ∈ xs, a ≤ x ∧ isDir (s.f x) = true := fun x hx => by
  obtain ⟨i, hi, e⟩ := List.mem_iff_getElem.1 hx
  have := h.each i hi
  rw [gd_get hi, e] at this
  exact this
theorem Fine.next {s : IS} {a : Int} {xs : List Int} {i : Nat} (h : Fine s a xs i) (h1 : a ≤ xs.getD i 0) (h2 : i = 0 ∨ xs.getD (i - 1) 0 < xs.getD i 0) (h3 : isDir (s.f (xs.getD i 0)) = true) : Fine s a xs (i + 1) := by
  refine ⟨fun j k hjk hk => ?_, fun j hj => ?_⟩
  · by_cases e : k = i
    · subst e
      rcases h2 with h2 | h2
      · omega
      · by_cases e2 : j = k - 1
        · rw [e2]; exact h2
        · have := h.inc j (k - 1) (by omega) (by omega)
          omega
    · exact h.inc j k hjk (by omega)
  · by_cases e : j = i
    · rw [e]; exact ⟨h1, h3⟩
    · exact h.each j (by omega)
section
variable {w : World} {base o : Nat} {fp : Nat → Prop} {s : IS} {L : IdL}
set_option maxHeartbeats 16000000 in
theorem maylist_any (h : IdIn w base fp o s L) (hlen : ∀ a, (s.f a).length ≤ 400) (k a : Int) (A : Option Addr) (n c : Nat) (m : Int) (zA : Option Addr) (zn zc : Nat) (xs : List Int) (hz : zn ≤ 4000) (hX : wordK.Lie w w.heap.size zA zn xs) :
    Calls Try.prog 57 #[.pointer (some ⟨o, 0, none⟩), .agg #[.int .i64 k, .int .u64 a, .slice A n c, .int .i64 m], .slice zA zn zc] w (MayOut w s a m xs) := by
  obtain ⟨g, HG⟩ : ∃ g, Hid (w.heap.size = g) := ⟨_, rfl⟩
  obtain ⟨W1, HW1⟩ : ∃ W, Hid (w.alloc (.cells #[.int .i64 k, .int .u64 a, .slice A n c, .int .i64 m] 32) = W) := ⟨_, rfl⟩
  have S1 : Hid (Below w.heap.size w W1) := by show Below _ _ _; rw [← HW1.out]; exact (Below.refl _ _).alloc (Nat.le_refl _) _
  have B1 : Hid (RestC fp W1 g #[.int .i64 k, .int .u64 a, .slice A n c, .int .i64 m] 32) := by show RestC _ _ _ _ _; rw [← HW1.out, ← HG.out]; exact RestC.new w _ _ h.but.lt
  have H := Lib.hid h
  have HX := Lib.hid hX
  have HLN : Hid (xs.length = zn) := hX.len
  have HZ := Lib.hid hz
  have HLE := Lib.hid hlen
  have HWF : Hid (∀ i, U64 (xs.getD i 0)) := fun i => hX.wf i
  clear h hX hz hlen
  by_cases hm : m < (zn : Int)
  · have b3 := B1.out.cell 3
    simp only [List.getElem?_toArray, List.getElem?_cons_zero, List.getElem?_cons_succ] at b3
    rw [← HW1.out, ← HG.out] at b3
    have d1 : decide (m < (zn : Int)) = true := decide_eq_true hm
    go_enter Try.func57, Try.ntmps57
    go_wp2_with fail
    go_ret
    refine ⟨false, rfl, ⟨fun e => (by cases e), fun hq => ?_⟩, ?_⟩
    · have := hq.len
      rw [HLN.out] at this; omega
    · rw [HW1.out]; exact S1
  · have d1 : decide (m < (zn : Int)) = false := decide_eq_false hm
    have HM : Hid ((zn : Int) ≤ m) := by show _ ≤ _; omega
    go_enter Try.func57, Try.ntmps57
    go_wp2_with fail
    rw [HW1.out, HG.out]
    clear hm d1
    go_loopw [20] (fun t20 wr => ∃ i : Nat, t20 = .int .i64 i ∧ i ≤ zn ∧ Hid (Fine s a xs i) ∧ Hid (Below W1.heap.size W1 wr)) (fun t20 _ => zn - (intOf t20).toNat)
    case atStart => exact ⟨0, rfl, Nat.zero_le _, ⟨fun j k hjk hk => absurd hk (Nat.not_lt_zero k), fun j hj => absurd hj (Nat.not_lt_zero j)⟩, Below.refl _ _⟩
    case round =>
      obtain ⟨i, rfl, hin, HF, HB⟩ := hrel
      have i0 : (0 : Int) ≤ (i : Int) := by omega
      have HBW : Hid (Below w.heap.size w wr) := below_chain S1.out HB.out
      have B2 := Lib.hid (B1.out.since HB.out)
      have b0 := B2.out.cell 0
      have b1 := B2.out.cell 1
      have b2 := B2.out.cell 2
      have b3 := B2.out.cell 3
      simp only [List.getElem?_toArray, List.getElem?_cons_zero, List.getElem?_cons_succ] at b0 b1 b2 b3
      by_cases hlt : i < zn
      · have i1 : (i : Int) < (zn : Int) := by omega
        have i2 : (zn : Int) ≤ 4000 := by have := HZ.out; omega
        have HI : Hid (i < zn) := hlt
        have HIL : Hid (i < xs.length) := by show _ < _; rw [HLN.out]; exact hlt
        have lX := HX.out.below HBW.out
        obtain ⟨ad, rfl, hadb, hat⟩ := word_at lX hlt
        obtain ⟨y, HY⟩ : ∃ y, Hid (xs.getD i 0 = y) := ⟨_, rfl⟩
        rw [HY.out] at hat
        have HYU : Hid (U64 y) := by show U64 _; rw [← HY.out]; exact HWF.out i
        have HNO : Hid (MayL s a m xs → a ≤ y ∧ (∀ p, p < i → xs.getD p 0 < y) ∧ isDir (s.f y) = true) := fun q => by
          have hy : y ∈ xs := by rw [← HY.out, gd_get HIL.out]; exact List.getElem_mem HIL.out
          refine ⟨(q.each y hy).1, fun p hp => ?_, (q.each y hy).2⟩
          have h1 := List.pairwise_iff_getElem.1 q.ris p i (by have := HIL.out; omega) HIL.out hp
          rw [← gd_get, ← gd_get, HY.out] at h1
          exact h1
        by_cases hya : y < a
        · have e1 : decide (y < a) = true := decide_eq_true hya
          go_wp2_with fail
          go_ret
          exact ⟨false, rfl, ⟨fun e => (by cases e), fun hq => by have := (HNO.out hq).1; omega⟩, HBW⟩
        · have e1 : decide (y < a) = false := decide_eq_false hya
          have HYA : Hid (a ≤ y) := by show _ ≤ _; omega
          have CA := Lib.hid (at_any (H.out.since HBW.out) HYU.out)
          by_cases hi0 : 0 < i
          · have hi0z : (0 : Int) < (i : Int) := by omega
            have e2 : decide ((0 : Int) < (i : Int)) = true := decide_eq_true hi0z
            obtain ⟨p, HP⟩ : ∃ p : Nat, Hid (i - 1 = p) := ⟨_, rfl⟩
            have p0 : (i : Int) - 1 = (p : Int) := by rw [← HP.out]; omega
            have p1 : (0 : Int) ≤ (p : Int) := by omega
            have p2 : (p : Int) < (zn : Int) := by omega
            obtain ⟨ad2, ea, _, hat2⟩ := word_at lX (show p < zn by omega)
            obtain rfl := Option.some.inj ea
            obtain ⟨z, HZZ⟩ : ∃ y, Hid (xs.getD p 0 = y) := ⟨_, rfl⟩
            rw [HZZ.out] at hat2
            have HPI : Hid (p < i) := by show _ < _; omega
            clear ea lX
            by_cases hle : y ≤ z
            · have e3 : decide (y ≤ z) = true := decide_eq_true hle
              go_wp2_with fail
              go_ret
              exact ⟨false, rfl, ⟨fun e => (by cases e), fun hq => by have := (HNO.out hq).2.1 p HPI.out; rw [HZZ.out] at this; omega⟩, HBW⟩
            · have e3 : decide (y ≤ z) = false := decide_eq_false hle
              have HZY : Hid (z < y) := by show _ < _; omega
              go_wp2_with fail
              refine CA.out.mono ?_
              rintro e w1 ⟨AA, an, ac, rfl, hBA, hLA, _⟩
              have HB1 := Lib.hid (below_chain HB.out hBA.out)
              have CD := Lib.hid (isdir_any (some ⟨AA, 0, none⟩) an ac (s.f y) w1 (by rw [← hLA.out.len]; exact List.length_pos_iff.2 (H.out.but.ok.l y).ne) (by rw [← hLA.out.len]; have := HLE.out y; omega) hLA.out)
              clear hBA hLA
              cases hd : isDir (s.f y)
              · rw [hd] at CD
                have HDF := Lib.hid hd
                clear hd
                go_wp2_with fail
                refine CD.out.mono ?_
                rintro e w2 ⟨rfl, rfl⟩
                go_wp2_with fail
                go_ret
                exact ⟨false, rfl, ⟨fun e => (by cases e), fun hq => by have := (HNO.out hq).2.2; rw [HDF.out] at this; cases this⟩, below_chain S1.out HB1.out⟩
              · rw [hd] at CD
                have HDF := Lib.hid hd
                clear hd
                have HF2 : Hid (Fine s a xs (i + 1)) := HF.out.next (by rw [HY.out]; exact HYA.out) (Or.inr (by rw [HP.out, HZZ.out, HY.out]; exact HZY.out)) (by rw [HY.out]; exact HDF.out)
                go_wp2_with fail
                refine CD.out.mono ?_
                rintro e w2 ⟨rfl, rfl⟩
                go_wp2_with fail
                go_roundw
                case rel => exact ⟨i + 1, by go_num, HI.out, HF2, HB1⟩
                case measure => have := HI.out; simp [intOf]; omega
          · obtain rfl : i = 0 := by omega
            have hat0 := hat
            rw [show ad.add 0 = ad by cases ad with | mk b o p => cases p <;> simp [Addr.add]] at hat0
            clear lX
            go_wp2_with fail
            refine CA.out.mono ?_
            rintro e w1 ⟨AA, an, ac, rfl, hBA, hLA, _⟩
            have HB1 := Lib.hid (below_chain HB.out hBA.out)
            have CD := Lib.hid (isdir_any (some ⟨AA, 0, none⟩) an ac (s.f y) w1 (by rw [← hLA.out.len]; exact List.length_pos_iff.2 (H.out.but.ok.l y).ne) (by rw [← hLA.out.len]; have := HLE.out y; omega) hLA.out)
            clear hBA hLA
            cases hd : isDir (s.f y)
            · rw [hd] at CD
              have HDF := Lib.hid hd
              clear hd
              go_wp2_with fail
              refine CD.out.mono ?_
              rintro e w2 ⟨rfl, rfl⟩
              go_wp2_with fail
              go_ret
              exact ⟨false, rfl, ⟨fun e => (by cases e), fun hq => by have := (HNO.out hq).2.2; rw [HDF.out] at this; cases this⟩, below_chain S1.out HB1.out⟩
            · rw [hd] at CD
              have HDF := Lib.hid hd
              clear hd
              have HF2 : Hid (Fine s a xs (0 + 1)) := HF.out.next (by rw [HY.out]; exact HYA.out) (Or.inl rfl) (by rw [HY.out]; exact HDF.out)
              go_wp2_with fail
              refine CD.out.mono ?_
              rintro e w2 ⟨rfl, rfl⟩
              go_wp2_with fail
              go_roundw
              case rel => exact ⟨0 + 1, by go_num, HI.out, HF2, HB1⟩
              case measure => have := HI.out; simp [intOf]; omega
      · obtain rfl : zn = i := by omega
        have hFF : Fine s a xs xs.length := by rw [HLN.out]; exact HF.out
        have HR := Lib.hid hFF.ris
        have HEA := Lib.hid hFF.all
        clear hFF HF b0 b1 b2 b3
        have h2 := H.out.since HBW.out
        have o1 := h2.but.c1
        obtain ⟨mp, HMP⟩ : ∃ m, Hid (L.mp = m) := ⟨_, rfl⟩
        obtain ⟨W3, hr3, hI3, hB3, hz3⟩ := h2.range
        obtain ⟨r, HRR⟩ : ∃ r, Hid (wr.heap.size = r) := ⟨_, rfl⟩
        rw [HMP.out] at o1 hr3 hI3
        rw [HRR.out] at hr3 hI3
        have HI3 := Lib.hid hI3
        have HB3 := Lib.hid (below_chain HB.out hB3)
        have HMB : Hid (∀ b, mp = some b → b < w.heap.size) := fun b hb => H.out.but.lt b (H.out.but.fm b (HMP.out.trans hb))
        have HRW : Hid (W1.heap.size ≤ r) := by show _ ≤ _; rw [← HRR.out]; exact HB.out.size
        clear h2 hI3 hB3 hz3
        go_wp2_with fail
        try go_frame
        go_loopw [9, 10] (fun t9 t10 wr => ∃ ls : List Int, Hid (RangeI wr mp r s.ks (elemOf s L) ls) ∧ Hid (∀ x ∈ s.ks, x ∉ ls → isSure (s.f x) = true → spanT a m xs x = true → x ∈ xs) ∧ Hid (Below W1.heap.size W1 wr)) (fun t9 t10 wr => leftI mp r wr)
        case atStart => exact ⟨s.ks, HI3, fun x h1 h2 => absurd h1 h2, HB3⟩
        case round =>
          clear HI3 HB3 B2 HBW HB
          obtain ⟨ls, HI, HV, HB⟩ := hrel
          rcases HI.out.next with ⟨hls, hnx⟩ | ⟨x, w1, hx, hxk, ⟨zA', zn', zc', hF⟩, hnx, hen, hI1, hg1, hz1, hm1⟩
          · subst hls
            go_wp2_with fail
            go_ret
            exact ⟨true, rfl, ⟨fun _ => ⟨by rw [HLN.out]; exact HM.out, HR.out, HEA.out, fun x hx => HV.out x hx (by simp)⟩, fun _ => rfl⟩, below_chain S1.out HB.out⟩
          · have HND := Lib.hid HI.out.nodup
            have HXI := Lib.hid hx
            have HXU : Hid (U64 x) := H.out.but.ok.u64 x hxk
            have HXK := Lib.hid hxk
            have hF2 : elemOf s L x = .slice (some ⟨L.g x, 0, none⟩) (s.f x).length (L.c x) := rfl
            obtain ⟨fn, HN0⟩ : ∃ q, Hid ((s.f x).length = q) := ⟨_, rfl⟩
            obtain ⟨fc, HC0⟩ : ∃ q, Hid (L.c x = q) := ⟨_, rfl⟩
            obtain ⟨gx, HG0⟩ : ∃ q, Hid (L.g x = q) := ⟨_, rfl⟩
            rw [HN0.out, HC0.out, HG0.out] at hF2
            rw [hF2] at hnx hen
            have HR1 := Lib.hid hI1
            have HB1 : Hid (Below W1.heap.size W1 w1) := HB.out.grown hg1 HB.out.size fun k e => by rw [← Option.some.inj e]; exact HRW.out
            have HM1 : Hid (leftI mp r w1 < leftI mp r wr) := hm1
            have HBW1 : Hid (Below w.heap.size w w1) := below_chain S1.out HB1.out
            have CS := Lib.hid (wsearch_any zA zn zc xs x w1 HR.out HZ.out (HX.out.since HBW1.out))
            have hle := HLE.out x
            rw [HN0.out] at hle
            have HFN : Hid (0 < fn ∧ fn ≤ 8000) := ⟨by rw [← HN0.out]; exact List.length_pos_iff.2 (H.out.but.ok.l x).ne, by omega⟩
            have lT := ((H.out.since HBW1.out).but.rows x hxk (fun q => q)).lie
            rw [HN0.out, HG0.out] at lT
            have CU := Lib.hid (issure_any (some ⟨gx, 0, none⟩) fn fc (s.f x) w1 HFN.out.1 HFN.out.2 lT)
            have B4 := Lib.hid (B1.out.since HB1.out)
            have b0 := B4.out.cell 0
            have b1 := B4.out.cell 1
            have b2 := B4.out.cell 2
            have b3 := B4.out.cell 3
            simp only [List.getElem?_toArray, List.getElem?_cons_zero, List.getElem?_cons_succ] at b0 b1 b2 b3
            have CP := Lib.hid (span_any k a A n c m zA zn zc xs x w1 HZ.out (HX.out.since HBW1.out))
            have HGO : Hid (∀ W, Below w1.heap.size w1 W → (isSure (s.f x) = true → spanT a m xs x = true → x ∈ xs) → ∃ ls : List Int, Hid (RangeI W mp r s.ks (elemOf s L) ls) ∧ Hid (∀ x ∈ s.ks, x ∉ ls → isSure (s.f x) = true → spanT a m xs x = true → x ∈ xs) ∧ Hid (Below W1.heap.size W1 W)) := fun W hW hq => by
              refine ⟨ls.erase x, HR1.out.keep (fun b hb => hW.block b (Nat.lt_of_lt_of_le (HMB.out b hb) HBW1.out.size)) (hW.block r HR1.out.lt), fun y hy hn => ?_, below_chain HB1.out hW⟩
              by_cases e : y = x
              · rw [e]; exact hq
              · exact HV.out y hy fun q => hn ((List.mem_erase_of_ne e).2 q)
            have HMS : Hid (∀ W, Below w1.heap.size w1 W → leftI mp r W < leftI mp r wr) := fun W hW => by
              rw [leftI_keep (fun b hb => hW.block b (Nat.lt_of_lt_of_le (HMB.out b hb) HBW1.out.size)) (hW.block r HR1.out.lt)]; exact HM1.out
            clear hx hxk hF hF2 hI1 hg1 hz1 hm1 hle lT HI
            obtain ⟨p1, HP1⟩ : ∃ q, Hid (isSure (s.f x) = q) := ⟨_, rfl⟩
            obtain ⟨p2, HP2⟩ : ∃ q, Hid (spanT a m xs x = q) := ⟨_, rfl⟩
            obtain ⟨p3, HP3⟩ : ∃ q, Hid (decide (x ∈ xs) = q) := ⟨_, rfl⟩
            rw [HP1.out] at CU
            rw [HP2.out] at CP
            rw [HP3.out] at CS
            go_wp2_with fail
            refine CS.out.mono ?_
            rintro e w2 ⟨rfl, rfl⟩
            go_wp2_with fail
            refine CU.out.mono ?_
            rintro e w3 ⟨rfl, rfl⟩
            cases p1
            · go_wp2_with fail
              go_roundw
              case rel => exact HGO.out _ (Below.refl _ _) fun e => by rw [HP1.out] at e; cases e
              case measure => exact HMS.out _ (Below.refl _ _)
            · go_wp2_with fail
              refine CP.out.mono ?_
              rintro e w4 ⟨rfl, hB4⟩
              have HB4 := Lib.hid hB4
              clear hB4 b0 b1 b2 b3
              cases p2
              · go_wp2_with fail
                go_roundw
                case rel => exact HGO.out _ HB4.out fun _ e => by rw [HP2.out] at e; cases e
                case measure => exact HMS.out _ HB4.out
              · cases p3
                · go_wp2_with fail
                  go_ret
                  refine ⟨false, rfl, ⟨fun e => (by cases e), fun hq => ?_⟩, below_chain S1.out (below_chain HB1.out HB4.out)⟩
                  have h1 := hq.all x HXK.out HP1.out HP2.out
                  exact absurd h1 (of_decide_eq_false HP3.out)
                · go_wp2_with fail
                  go_roundw
                  case rel => exact HGO.out _ HB4.out fun _ _ => of_decide_eq_true HP3.out
                  case measure => exact HMS.out _ HB4.out
end
end

section
open Go.RowKit

theorem lie_turn {w w' : World} {A : Option Addr} {n : Nat} {xs : List Int} {fp : Nat → Prop} (h : wordK.Lie w w.heap.size A n xs) (ht : Turn fp w w') (hs : ∀ b ∈ blk A, ¬ fp b) : wordK.Lie w' w'.heap.size A n xs := by
  refine ⟨h.len, fun i hi => ?_, h.wf⟩
  obtain ⟨ad, rfl, hb, hat⟩ := h.each i hi
  refine ⟨ad, rfl, Nat.lt_of_lt_of_le hb ht.size, Kind.At.kept hat fun q hq => ?_⟩
  rw [addr_block] at hq
  exact same_cell (ht.block ad.block hb (hs ad.block (by simp [blk]))) hq
theorem put_back {s : IS} (hs : s.Ok) {x : Int} (hx : x ∈ s.ks) : putS s x (s.f x) = s := by
  have hb : isBlk (s.f x) = true := (hs.mem x).1 hx
  have h1 : upd s.f x (s.f x) = s.f := by
    funext y
    by_cases e : y = x
    · rw [e, upd_self]
    · rw [upd_ne _ _ e]
  have h2 : insK s.ks x = s.ks := ris_ext (ris_insK hs.ris) hs.ris fun y => by
    rw [mem_insK]
    exact ⟨fun q => q.elim (fun e => e ▸ hx) id, Or.inr⟩
  cases s with
  | mk z f ks =>
    show (⟨z, upd f x (f x), if isBlk (f x) then insK ks x else strike ks x⟩ : IS) = _
    simp only at h1 h2 hb
    rw [h1, hb, if_pos rfl, h2]
theorem putL_mp (L : IdL) (mp : Option Nat) (a : Int) (r c : Nat) : (putL L mp a r c).mp = mp := rfl
section
variable {w : World} {base o : Nat} {fp : Nat → Prop} {s : IS} {L : IdL}
def ListOut (w : World) (base : Nat) (fp : Nat → Prop) (o : Nat) (s : IS) (a m : Int) (xs : List Int) (e : Ending) (w' : World) : Prop := ∃ v : Bool, e = .returned (.bool v) ∧ (v = true ↔ MayL s a m xs) ∧ ∃ fp', Hid (IdAt w' base fp' o s) ∧ Hid (Moves w fp w' fp')
set_option maxHeartbeats 16000000 in
theorem takelist_same (h : IdIn w base fp o s L) (hlen : ∀ a, (s.f a).length ≤ 400) (hks : s.ks.length ≤ 900) (k a : Int) (A : Option Addr) (n c : Nat) (m : Int) (zA : Option Addr) (zn zc : Nat) (xs : List Int) (hz : zn ≤ 4000) (hX : wordK.Lie w w.heap.size zA zn xs) (hsafe : ∀ b ∈ blk zA, ¬ fp b)
    (hstay : MayL s a m xs → ∀ x ∈ s.ks, spanT a m xs x = true → ∀ t ∈ s.f x, hitT (decide (x ∈ xs)) t = false) :
    Calls Try.prog 36 #[.pointer (some ⟨o, 0, none⟩), .agg #[.int .i64 k, .int .u64 a, .slice A n c, .int .i64 m], .slice zA zn zc] w (ListOut w base fp o s a m xs) := by
  obtain ⟨g, HG⟩ : ∃ g, Hid (w.heap.size = g) := ⟨_, rfl⟩
  obtain ⟨W1, HW1⟩ : ∃ W, Hid (w.alloc (.cells #[.int .i64 k, .int .u64 a, .slice A n c, .int .i64 m] 32) = W) := ⟨_, rfl⟩
  have S1 : Hid (Below w.heap.size w W1) := by show Below _ _ _; rw [← HW1.out]; exact (Below.refl _ _).alloc (Nat.le_refl _) _
  have B1 : Hid (RestC fp W1 g #[.int .i64 k, .int .u64 a, .slice A n c, .int .i64 m] 32) := by show RestC _ _ _ _ _; rw [← HW1.out, ← HG.out]; exact RestC.new w _ _ h.but.lt
  have H := Lib.hid h
  have HX := Lib.hid hX
  have HZ := Lib.hid hz
  have HLE := Lib.hid hlen
  have HKS := Lib.hid hks
  have HSF := Lib.hid hsafe
  have HST := Lib.hid hstay
  have H1 := Lib.hid (h.since S1.out)
  have CM := Lib.hid (maylist_any H1.out hlen k a A n c m zA zn zc xs hz (lie_turn hX (Turn.of_below (fp := fun _ => False) S1.out) (fun _ _ e => e)))
  clear h hX hz hlen hks hsafe hstay
  have b0 := B1.out.cell 0
  have b1 := B1.out.cell 1
  have b2 := B1.out.cell 2
  have b3 := B1.out.cell 3
  simp only [List.getElem?_toArray, List.getElem?_cons_zero, List.getElem?_cons_succ] at b0 b1 b2 b3
  rw [← HW1.out, ← HG.out] at b0 b1 b2 b3
  go_enter Try.func36, Try.ntmps36
  go_wp2_with fail
  rw [HW1.out, HG.out]
  clear b0 b1 b2 b3
  refine CM.out.mono ?_
  rintro e W2 ⟨v, rfl, hv, hB2⟩
  have HV := Lib.hid hv
  have S2 := Lib.hid (below_chain S1.out hB2.out)
  have B2 := Lib.hid (B1.out.since hB2.out)
  clear hv hB2
  cases v
  · go_wp2_with fail
    go_ret
    exact ⟨false, rfl, HV.out, fp, ⟨L, H.out.since S2.out⟩, Moves.of_below S2.out⟩
  · have HRIS : Hid (Ris xs) := (HV.out.1 rfl).ris
    have h2 := H.out.since S2.out
    have o1 := h2.but.c1
    obtain ⟨mp, HMP⟩ : ∃ m, Hid (L.mp = m) := ⟨_, rfl⟩
    obtain ⟨W3, hr3, hI3, hB3, hz3⟩ := h2.range
    obtain ⟨r, HRR⟩ : ∃ r, Hid (W2.heap.size = r) := ⟨_, rfl⟩
    rw [HMP.out] at o1 hr3 hI3
    rw [HRR.out] at hr3 hI3
    have HI3 := Lib.hid hI3
    have S3 := Lib.hid (below_chain S2.out hB3)
    have B3 := Lib.hid (B2.out.since hB3)
    have H3 := Lib.hid (h2.since hB3)
    have HRW : Hid (w.heap.size ≤ r) := by show _ ≤ _; rw [← HRR.out]; exact S2.out.size
    have HGR : Hid (g < r) := by show _ < _; rw [← HRR.out]; exact B2.out.lt
    have HT3 : Hid (Turn fp w W3) := Turn.of_below S3.out
    clear h2 hI3 hB3 hz3
    go_wp2_with fail
    try go_frame
    go_loopw [7, 8] (fun t7 t8 wr => ∃ (ls : List Int) (L' : IdL) (fq : Nat → Prop), Hid (IdIn wr base fq o s L') ∧ Hid (L'.mp = mp) ∧ Hid (∀ b, fq b → fp b) ∧ Hid (RangeI wr mp r s.ks (elemOf s L') ls) ∧ Hid (RestC fp wr g #[.int .i64 k, .int .u64 a, .slice A n c, .int .i64 m] 32) ∧ Hid (Turn fp w wr)) (fun t7 t8 wr => leftI mp r wr)
    case atStart => exact ⟨s.ks, L, fp, H3, HMP, fun b hb => hb, HI3, B3, HT3⟩
    case round =>
      clear HI3 B3 HT3 H3 S3 B2 S2 B1 S1
      obtain ⟨ls, L', fq, HN, HMQ, HFQ, HI, HB, HT⟩ := hrel
      rcases HI.out.next with ⟨hls, hnx⟩ | ⟨x, w1, hx, hxk, ⟨zA', zn', zc', hF⟩, hnx, hen, hI1, hg1, hz1, hm1⟩
      · subst hls
        go_wp2_with fail
        go_ret
        exact ⟨true, rfl, ⟨fun _ => HV.out.1 trivial, fun _ => rfl⟩, fq, ⟨L', HN.out⟩, ⟨HT.out, fun b hb => Or.inl (HFQ.out b hb)⟩⟩
      · cases mp with
        | none => exact absurd hxk (by rw [HN.out.but.nil HMQ.out]; simp)
        | some mb =>
          have HND := Lib.hid HI.out.nodup
          have HXI := Lib.hid hx
          have HXK := Lib.hid hxk
          have hF2 : elemOf s L' x = .slice (some ⟨L'.g x, 0, none⟩) (s.f x).length (L'.c x) := rfl
          obtain ⟨fn, HN0⟩ : ∃ q, Hid ((s.f x).length = q) := ⟨_, rfl⟩
          obtain ⟨fc, HC0⟩ : ∃ q, Hid (L'.c x = q) := ⟨_, rfl⟩
          obtain ⟨gx, HG0⟩ : ∃ q, Hid (L'.g x = q) := ⟨_, rfl⟩
          rw [HN0.out, HC0.out, HG0.out] at hF2
          rw [hF2] at hnx hen
          have HR1 := Lib.hid hI1
          have hT1 : Turn (fun b => b = r) wr w1 := Turn.of_grown hg1 fun b e => (Option.some.inj e).symm
          have HNR : Hid (∀ b, fp b → b ≠ r) := fun b hb e => by have h1 := H.out.but.lt b hb; have h2 := HRW.out; omega
          have HT1 : Hid (Turn fp w w1) := HT.out.trans hT1 fun b e => Or.inr (by rw [e]; exact HRW.out)
          have HN1 : Hid (IdIn w1 base fq o s L') := HN.out.turn hT1 fun b hb e => HNR.out b (HFQ.out b hb) e
          have HB1 : Hid (RestC fp w1 g #[.int .i64 k, .int .u64 a, .slice A n c, .int .i64 m] 32) := HB.out.keep hT1 fun e => by have := HGR.out; omega
          have HM1 : Hid (leftI (some mb) r w1 < leftI (some mb) r wr) := hm1
          have b0 := HB1.out.cell 0
          have b1 := HB1.out.cell 1
          have b2 := HB1.out.cell 2
          have b3 := HB1.out.cell 3
          simp only [List.getElem?_toArray, List.getElem?_cons_zero, List.getElem?_cons_succ] at b0 b1 b2 b3
          have CP := Lib.hid (span_any k a A n c m zA zn zc xs x w1 HZ.out (lie_turn HX.out HT1.out HSF.out))
          obtain ⟨p2, HP2⟩ : ∃ q, Hid (spanT a m xs x = q) := ⟨_, rfl⟩
          rw [HP2.out] at CP
          clear hx hxk hF hF2 hI1 hg1 hz1 hm1 HI HN HB hT1
          go_wp2_with fail
          refine CP.out.mono ?_
          rintro e w2 ⟨rfl, hB2⟩
          clear b0 b1 b2 b3
          have HN2 := Lib.hid (HN1.out.since hB2)
          have HB2 := Lib.hid (HB1.out.since hB2)
          have HT2 : Hid (Turn fp w w2) := HT1.out.trans (Turn.of_below (fp := fun _ => False) hB2) fun b e => e.elim
          have HMBL : Hid (mb < w1.heap.size) := HN1.out.but.lt mb (HN1.out.but.fm mb HMQ.out)
          have HR2 : Hid (RangeI w2 (some mb) r s.ks (elemOf s L') (ls.erase x)) := HR1.out.keep (fun b hb => by rw [← Option.some.inj hb]; exact hB2.block mb HMBL.out) (hB2.block r HR1.out.lt)
          have HM2 : Hid (leftI (some mb) r w2 < leftI (some mb) r wr) := by show _ < _; rw [leftI_keep (fun b hb => by rw [← Option.some.inj hb]; exact hB2.block mb HMBL.out) (hB2.block r HR1.out.lt)]; exact HM1.out
          clear hB2 HN1 HB1 HT1 HR1 HM1 HMBL
          cases p2
          · go_wp2_with fail
            go_roundw
            case rel => exact ⟨ls.erase x, L', fq, HN2, HMQ, HFQ, HR2, HB2, HT2⟩
            case measure => exact HM2.out
          · have CS := Lib.hid (wsearch_any zA zn zc xs x w2 HRIS.out HZ.out (lie_turn HX.out HT2.out HSF.out))
            obtain ⟨p3, HP3⟩ : ∃ q, Hid (decide (x ∈ xs) = q) := ⟨_, rfl⟩
            rw [HP3.out] at CS
            obtain ⟨g3, HG3⟩ : ∃ q, Hid (w2.heap.size = q) := ⟨_, rfl⟩
            obtain ⟨w3, HW3⟩ : ∃ W, Hid (w2.alloc (.cells #[.bool p3] 4) = W) := ⟨_, rfl⟩
            have hB3 : Below w2.heap.size w2 w3 := by rw [← HW3.out]; exact (Below.refl _ _).alloc (Nat.le_refl _) _
            have hc3 : w3.cell? ⟨g3, 0, none⟩ = some (.bool p3) := by rw [← HW3.out, ← HG3.out]; exact cell_first rfl
            have HN3 := Lib.hid (HN2.out.since hB3)
            have lT := (HN3.out.but.rows x HXK.out (fun q => q)).lie
            rw [HN0.out, HG0.out] at lT
            have hle := HLE.out x
            rw [HN0.out] at hle
            have CD := Lib.hid (delete_same p3 g3 (some ⟨gx, 0, none⟩) fn fc (s.f x) w3 (by omega) lT hc3 (by rw [← HP3.out]; exact HST.out (HV.out.1 trivial) x HXK.out HP2.out))
            have HFN : Hid (fn ≤ 8000) := by show _ ≤ _; omega
            have HB3 := Lib.hid hB3
            clear hB3 hc3 lT hle
            go_wp2_with fail
            refine CS.out.mono ?_
            rintro e wz ⟨rfl, rfl⟩
            go_wp2_with fail
            rw [HW3.out, HG3.out]
            refine CD.out.mono ?_
            rintro e w4 ⟨rfl, hB4⟩
            have hB24 : Below wz.heap.size wz w4 := below_chain HB3.out hB4.out
            have HN4 := Lib.hid (HN2.out.since hB24)
            have HB4 := Lib.hid (HB2.out.since hB24)
            have HT4 : Hid (Turn fp w w4) := HT2.out.trans (Turn.of_below (fp := fun _ => False) hB24) fun b e => e.elim
            have HMBL : Hid (mb < wz.heap.size) := HN2.out.but.lt mb (HN2.out.but.fm mb HMQ.out)
            have HR4 : Hid (RangeI w4 (some mb) r s.ks (elemOf s L') (ls.erase x)) := HR2.out.keep (fun b hb => by rw [← Option.some.inj hb]; exact hB24.block mb HMBL.out) (hB24.block r HR2.out.lt)
            have HM4 : Hid (leftI (some mb) r w4 < leftI (some mb) r wr) := by show _ < _; rw [leftI_keep (fun b hb => by rw [← Option.some.inj hb]; exact hB24.block mb HMBL.out) (hB24.block r HR2.out.lt)]; exact HM2.out
            have hPR : PutRow w4 base o s L' x gx fn fc (s.f x) := by
              have h1 := HN4.out.but.rows x HXK.out (fun q => q)
              rw [HN0.out, HG0.out, HC0.out] at h1
              exact ⟨h1, HN4.out.but.ok.l x, by rw [← HG0.out]; exact HN4.out.but.go x HXK.out, fun q hq => by rw [← HG0.out]; exact HN4.out.but.gm x HXK.out q hq, fun y hy hne e => hne (HN4.out.but.apart y hy x HXK.out (by rw [HG0.out]; exact e))⟩
            have CW := Lib.hid (put_within (HN4.out.but.more fun _ q => q.elim) HMQ.out HR4.out HXK.out (HND.out.not_mem_erase) hPR HFN.out (by have := HKS.out; omega) HN4.out.bsz (obj_not_map HN4.out))
            have HPR := Lib.hid hPR
            clear hB24 hB4 HN2 HB2 HT2 HR2 HM2 CD CS CP HW3 HB3 HN3 hPR
            go_wp2_with fail
            refine CW.out.mono ?_
            rintro e w5 ⟨rfl, hI5, hR5, hT5, hM5⟩
            rw [put_back HN4.out.but.ok HXK.out] at hI5 hR5
            have HFB : Hid (fp mb) := HFQ.out mb (HN4.out.but.fm mb HMQ.out)
            have HN5 := Lib.hid hI5.out
            have HR5 : Hid (RangeI w5 (some mb) r s.ks (elemOf s (putL L' (some mb) x gx fc)) (ls.erase x)) := hR5.out
            have HB5 : Hid (RestC fp w5 g #[.int .i64 k, .int .u64 a, .slice A n c, .int .i64 m] 32) := HB4.out.keep hT5.out fun e => HB4.out.safe (by rw [e]; exact HFB.out)
            have HT5 : Hid (Turn fp w w5) := HT4.out.trans hT5.out fun b e => Or.inl (by rw [e]; exact HFB.out)
            have HM5 : Hid (leftI (some mb) r w5 < leftI (some mb) r wr) := Nat.lt_of_le_of_lt hM5.out HM4.out
            have HFQ5 : Hid (∀ b, putP fq gx none b → fp b) := fun b hb => by
              rcases hb with h1 | h1 | h1
              · exact HFQ.out b h1
              · rw [h1, ← HG0.out]; exact HFQ.out _ (HN4.out.but.fr x HXK.out)
              · cases h1
            clear hI5 hR5 hT5 hM5
            go_wp2_with fail
            go_roundw
            case rel => exact ⟨ls.erase x, _, _, HN5, Lib.hid rfl, HFQ5, HR5, HB5, HT5⟩
            case measure => exact HM5.out
end
end

section
open Go.RowKit

section
variable {w : World} {base o : Nat} {fp : Nat → Prop} {s : IS}
set_option maxHeartbeats 16000000 in
theorem take_list (h : IdAt w base fp o s) (hlen : ∀ a, (s.f a).length ≤ 400) (hks : s.ks.length ≤ 900) (a : Int) (m : Int) (zA : Option Addr) (zn zc : Nat) (xs : List Int) (hm0 : 0 ≤ m) (hm1 : m ≤ 64) (hz : zn ≤ 4000) (hX : wordK.Lie w w.heap.size zA zn xs) (hsafe : ∀ b ∈ blk zA, ¬ fp b)
    (hstay : MayL s a m xs → ∀ x ∈ s.ks, spanT a m xs x = true → ∀ t ∈ s.f x, hitT (decide (x ∈ xs)) t = false) :
    Calls Try.prog 18 #[.pointer (some ⟨o, 0, none⟩), .agg #[.int .i64 6, .int .u64 a, .slice none 0 0, .int .i64 m], .agg #[.int .i64 3, .int .i64 0, .slice none 0 0, .bool false, .slice zA zn zc]] w (ListOut w base fp o s a m xs) := by
  obtain ⟨g, HG⟩ : ∃ g, Hid (w.heap.size = g) := ⟨_, rfl⟩
  obtain ⟨g2, HG2⟩ : ∃ q, Hid (g + 1 = q) := ⟨_, rfl⟩
  obtain ⟨W2, HW2⟩ : ∃ W, Hid ((w.alloc (.cells #[.int .i64 6, .int .u64 a, .slice none 0 0, .int .i64 m] 32)).alloc (.cells #[.int .i64 3, .int .i64 0, .slice none 0 0, .bool false, .slice zA zn zc] 36) = W) := ⟨_, rfl⟩
  have S2 : Hid (Below w.heap.size w W2) := by show Below _ _ _; rw [← HW2.out]; exact since_alloc ((Below.refl _ _).alloc (Nat.le_refl _) _) _
  have B1 : Hid (RestC fp W2 g #[.int .i64 6, .int .u64 a, .slice none 0 0, .int .i64 m] 32) := by show RestC _ _ _ _ _; rw [← HW2.out, ← HG.out]; exact (RestC.new w _ _ h.lt).since ((Below.refl _ _).alloc (Nat.le_refl _) _)
  have B2 : Hid (RestC fp W2 g2 #[.int .i64 3, .int .i64 0, .slice none 0 0, .bool false, .slice zA zn zc] 36) := by
    show RestC _ _ _ _ _
    have h1 := RestC.new (fp := fp) (w.alloc (.cells #[.int .i64 6, .int .u64 a, .slice none 0 0, .int .i64 m] 32)) #[.int .i64 3, .int .i64 0, .slice none 0 0, .bool false, .slice zA zn zc] 36 (fun b hb => by have := h.lt b hb; simp; omega)
    rw [World.size_alloc, HG.out, HG2.out, HW2.out] at h1; exact h1
  obtain ⟨L, hL⟩ := h
  have H := Lib.hid hL
  have HX := Lib.hid hX
  have CA : Hid (Calls Try.prog 34 #[.agg #[.int .i64 3, .int .i64 0, .slice none 0 0, .bool false, .slice zA zn zc]] W2 fun e w' => e = .returned (.bool true) ∧ Below W2.heap.size W2 w') := answer_any ⟨3, 0, none, 0, 0, false, zA, zn, zc⟩ W2
  have CM : Hid (∀ W, Below w.heap.size w W → Calls Try.prog 16 #[.pointer (some ⟨o, 0, none⟩), .agg #[.int .i64 6, .int .u64 a, .slice none 0 0, .int .i64 m]] W fun e w' => e = .returned (.bool true) ∧ Below W.heap.size W w') := fun W hw => may_at ⟨L, H.out.since hw⟩ ⟨6, a, none, 0, 0, m⟩ true (by unfold mayT; simp [hm0, hm1])
  have CT : Hid (∀ W, Below w.heap.size w W → Calls Try.prog 36 #[.pointer (some ⟨o, 0, none⟩), .agg #[.int .i64 6, .int .u64 a, .slice none 0 0, .int .i64 m], .slice zA zn zc] W (ListOut w base fp o s a m xs)) := fun W hw => by
    refine (takelist_same (H.out.since hw) hlen hks 6 a none 0 0 m zA zn zc xs hz (lie_turn HX.out (Turn.of_below (fp := fun _ => False) hw) (fun _ _ e => e)) hsafe hstay).mono ?_
    rintro e w' ⟨v, rfl, hv, fp', h1, h2⟩
    exact ⟨v, rfl, hv, fp', h1, (Moves.of_below hw).trans h2.out⟩
  clear hX hsafe hstay hlen hks hm0 hm1 hz hL
  go_enter Try.func18, Try.ntmps18
  go_wp2_with fail
  rw [HW2.out, HG.out, HG2.out]
  have o0 := B1.out.cell 0
  have o1 := B1.out.cell 1
  have o2 := B1.out.cell 2
  have o3 := B1.out.cell 3
  have r0 := B2.out.cell 0
  have r1 := B2.out.cell 1
  have r2 := B2.out.cell 2
  have r3 := B2.out.cell 3
  have r4 := B2.out.cell 4
  simp only [List.getElem?_toArray, List.getElem?_cons_zero, List.getElem?_cons_succ] at o0 o1 o2 o3 r0 r1 r2 r3 r4
  go_wp2_with fail
  clear o0 o1 o2 o3 r0 r1 r2 r3 r4
  refine CA.out.mono ?_
  rintro e w3 ⟨rfl, hB⟩
  have S3 := Lib.hid (below_chain S2.out hB)
  have B1 := Lib.hid (B1.out.since hB)
  have B2 := Lib.hid (B2.out.since hB)
  clear hB
  have o0 := B1.out.cell 0
  have o1 := B1.out.cell 1
  have o2 := B1.out.cell 2
  have o3 := B1.out.cell 3
  have r0 := B2.out.cell 0
  have r1 := B2.out.cell 1
  have r2 := B2.out.cell 2
  have r3 := B2.out.cell 3
  have r4 := B2.out.cell 4
  simp only [List.getElem?_toArray, List.getElem?_cons_zero, List.getElem?_cons_succ] at o0 o1 o2 o3 r0 r1 r2 r3 r4
  go_wp2_with fail
  clear o0 o1 o2 o3 r0 r1 r2 r3 r4
  refine (CM.out w3 S3.out).mono ?_
  rintro e w4 ⟨rfl, hB⟩
  have S4 := Lib.hid (below_chain S3.out hB)
  have B1 := Lib.hid (B1.out.since hB)
  have B2 := Lib.hid (B2.out.since hB)
  clear hB
  have o0 := B1.out.cell 0
  have o1 := B1.out.cell 1
  have o2 := B1.out.cell 2
  have o3 := B1.out.cell 3
  have r0 := B2.out.cell 0
  have r1 := B2.out.cell 1
  have r2 := B2.out.cell 2
  have r3 := B2.out.cell 3
  have r4 := B2.out.cell 4
  simp only [List.getElem?_toArray, List.getElem?_cons_zero, List.getElem?_cons_succ] at o0 o1 o2 o3 r0 r1 r2 r3 r4
  go_wp2_with fail
  clear o0 o1 o2 o3 r0 r1 r2 r3 r4
  refine (CT.out w4 S4.out).mono ?_
  rintro e w5 ⟨v, rfl, hv, fp', h1, h2⟩
  have HV := Lib.hid hv
  clear hv
  go_wp2_with fail
  go_ret
  exact ⟨v, rfl, HV.out, fp', h1, h2⟩
end
end
end Go.Proofs.Ytfidamiomnohcaa
