/- The document's own disk: Write, Crash. Conditions: the disk's blocks; fewer than 1000 writes wait. -/
import Derived.Test.YtfhfjfgajbgdcaaRefDisk2
import Derived.BigRegion
set_option linter.unusedVariables false
set_option linter.unusedSimpArgs false
namespace Go.Proofs.Ytfhfjfgajbgdcaa
open Go.RowKit

theorem Lie.at_block {α : Type} {K : Kind α} {w w' : World} {B B' n : Nat} {A : Option Addr} {vs : List α} (h : K.Lie w B A n vs) (hw : B ≤ B') (hb : 0 < n → ∀ b ∈ blk A, b < B → w'.heap[b]? = w.heap[b]?) : K.Lie w' B' A n vs :=
  ⟨h.len, fun i hi => by
    obtain ⟨ad, rfl, e2, e3⟩ := h.each i hi
    have hm : ad.block ∈ blk (some ad) := by simp [blk]
    exact ⟨ad, rfl, Nat.lt_of_lt_of_le e2 hw, e3.kept fun q hq => same_cell (hb (by omega) _ hm e2) (by rw [hq, addr_block])⟩, h.wf⟩
section
variable {w w' : World} {base g : Nat} {s : RD} {L : RL}
theorem RDisk.not_row {α : Type} {K : Kind α} {b' n c : Nat} {A : Option Addr} {vs : List α} (h : RDisk w base g s L) (hr : K.Row w b' A n c vs) (ht : K.T ≠ 68) : ∀ b ∈ blk A, b ≠ g := fun b hb e => by
  subst e
  obtain ⟨cur, hc⟩ := Row.typed hr b hb
  exact ht (other_type hc h.row)
theorem RDisk.not_own {b' n c : Nat} {A : Option Addr} {bs : List Nat} (h : RDisk w base g s L) (hr : Own w b' A n c bs) : ∀ b ∈ blk A, b ≠ g := fun b hb e => by
  subst e
  obtain ⟨cur, hc⟩ := hr.typed b hb
  exact absurd (other_type hc h.row) (by decide)
theorem sliceK_T : sliceK.T = 34 := rfl
theorem waitK_T : waitK.T = 80 := rfl
theorem boolK_T : boolK.T = 4 := rfl
/-- What waits is another list. -/
theorem RDisk.set_w (h : RDisk w base g s L) {A : Option Addr} {c : Nat} {vW : List WV} {W' : List (Int × List Nat)} (hr : waitK.Row w base A W'.length c vW)
    (hb : ∀ k, k < W'.length → (vW.getD k ⟨0, SV.zero⟩).at_ = (W'.getD k (0, [])).1 ∧ Own w base (vW.getD k ⟨0, SV.zero⟩).s.a (vW.getD k ⟨0, SV.zero⟩).s.n (vW.getD k ⟨0, SV.zero⟩).s.c (W'.getD k (0, [])).2)
    (hm : W'.length ≤ 1000) (hz : ∀ k, (W'.getD k (0, [])).2.length ≤ 256) (hi : ∀ k, k < W'.length → 0 ≤ (W'.getD k (0, [])).1 ∧ (W'.getD k (0, [])).1 < (s.F.length : Int)) :
    RDisk (w.setCell ⟨g, 1, none⟩ (.slice A W'.length c)) base g { s with W := W' } { L with AW := A, cW := c, vW := vW } := by
  have hk : ∀ b, b ≠ g → (w.setCell ⟨g, 1, none⟩ (.slice A W'.length c)).heap[b]? = w.heap[b]? := fun b hb => setCell_heap w g 1 b _ hb
  refine ⟨h.base_le, ?_, Row.at_block h.f fun b hb => hk b (h.not_row h.f (by rw [sliceK_T]; decide) b hb), fun k hk' => (h.fb k hk').at_block fun b hb => hk b (h.not_own (h.fb k hk') b hb), Row.at_block hr fun b hb => hk b (h.not_row hr (by rw [waitK_T]; decide) b hb),
    fun k hk' => ⟨(hb k hk').1, (hb k hk').2.at_block fun b hb' => hk b (h.not_own (hb k hk').2 b hb')⟩, Row.at_block h.br fun b hb => hk b (h.not_row h.br (by rw [boolK_T]; decide) b hb), h.same, h.few, hm, h.size, h.sizes, hz, hi⟩
  simp [World.setCell, Array.getElem?_modify, h.row]
/-- One sector is another one. -/
theorem RDisk.set_f (h : RDisk w base g s L) {bF : Nat} (hA : L.AF = some ⟨bF, 0, none⟩) {k : Nat} (hkF : k < s.F.length) {v : SV} {bs : List Nat} (ho : Own w base v.a v.n v.c bs) (hz : bs.length ≤ 256) :
    RDisk (w.setCell ⟨bF, k, none⟩ (.slice v.a v.n v.c)) base g { s with F := s.F.set k bs } { L with vF := L.vF.set k v } := by
  have hfr := h.f
  rw [hA] at hfr
  have hgF : bF ≠ g := h.not_row hfr (by rw [sliceK_T]; decide) bF (by simp [blk])
  obtain ⟨cur, hcur⟩ := Row.typed hfr bF (by simp [blk])
  have hk : ∀ b, b ≠ bF → (w.setCell ⟨bF, k, none⟩ (.slice v.a v.n v.c)).heap[b]? = w.heap[b]? := fun b hb => setCell_heap w bF k b _ hb
  have hown : ∀ {A : Option Addr} {n c : Nat} {bs : List Nat}, Own w base A n c bs → Own (w.setCell ⟨bF, k, none⟩ (.slice v.a v.n v.c)) base A n c bs := fun {A n c bs} ho => ho.at_block fun b hb => hk b fun e => by
    subst e
    obtain ⟨c2, hc2⟩ := ho.typed b hb
    exact absurd (other_type hc2 hcur) (by rw [sliceK_T]; decide)
  have hrow : ∀ {α : Type} {K : Kind α} {A : Option Addr} {n c : Nat} {vs : List α}, K.Row w base A n c vs → K.T ≠ sliceK.T → K.Row (w.setCell ⟨bF, k, none⟩ (.slice v.a v.n v.c)) base A n c vs := fun {α K A n c vs} hr ht => Row.at_block hr fun b hb => hk b fun e => by
    subst e
    obtain ⟨c2, hc2⟩ := Row.typed hr b hb
    exact ht (other_type hc2 hcur)
  obtain ⟨h1, _⟩ := hfr.row.stored k (.slice v.a v.n v.c)
  have hcs : ∀ (vs : List SV) (i : Nat) (v : SV), i < vs.length → sliceK.cells (vs.set i v) = (sliceK.cells vs).set i (.slice v.a v.n v.c) := by
    intro vs
    induction vs with
    | nil => intro i v h; simp at h
    | cons u r ih =>
      intro i v h
      rcases i with _ | i
      · rfl
      · show Value.slice u.a u.n u.c :: sliceK.cells (r.set i v) = Value.slice u.a u.n u.c :: (sliceK.cells r).set i _
        rw [ih i v (by simpa using h)]
  have hfset : sliceK.Row (w.setCell ⟨bF, k, none⟩ (.slice v.a v.n v.c)) base (some ⟨bF, 0, none⟩) s.F.length L.cF (L.vF.set k v) := ⟨by rw [hcs L.vF k v (by rw [h.f.len]; exact hkF)]; exact h1, fun u _ => trivial⟩
  have hgetv : ∀ i, (L.vF.set k v).getD i SV.zero = if i = k then v else L.vF.getD i SV.zero := fun i => by
    rw [List.getD_eq_getElem?_getD, List.getD_eq_getElem?_getD, List.getElem?_set]
    by_cases e : i = k
    · subst e; simp [show i < L.vF.length by rw [h.f.len]; exact hkF]
    · simp [e, Ne.symm e]
  have hgetb : ∀ i, (s.F.set k bs).getD i [] = if i = k then bs else s.F.getD i [] := fun i => by
    rw [List.getD_eq_getElem?_getD, List.getD_eq_getElem?_getD, List.getElem?_set]
    by_cases e : i = k
    · subst e; simp [hkF]
    · simp [e, Ne.symm e]
  refine ⟨h.base_le, (hk g hgF.symm).trans ?_, ?_, fun i hi => ?_, hrow h.wr (by rw [sliceK_T, waitK_T]; decide), fun i hi => ⟨(h.wb i hi).1, hown (h.wb i hi).2⟩, hrow h.br (by rw [sliceK_T, boolK_T]; decide), by show (s.F.set k bs).length = _; rw [List.length_set]; exact h.same, by show (s.F.set k bs).length ≤ _; rw [List.length_set]; exact h.few, h.many, h.size, fun i => ?_, h.sizew, fun i hi => by show _ ∧ _ < (((s.F.set k bs).length : Nat) : Int); rw [List.length_set]; exact h.ins i hi⟩
  · show w.heap[g]? = some (.cells #[.slice L.AF (s.F.set k bs).length L.cF, _, _, _] _ _)
    rw [List.length_set]; exact h.row
  · show sliceK.Row _ base L.AF (s.F.set k bs).length L.cF (L.vF.set k v)
    rw [hA, List.length_set]; exact hfset
  · show Own _ base ((L.vF.set k v).getD i SV.zero).a ((L.vF.set k v).getD i SV.zero).n ((L.vF.set k v).getD i SV.zero).c ((s.F.set k bs).getD i [])
    rw [hgetv, hgetb]
    by_cases e : i = k
    · rw [if_pos e, if_pos e]; exact hown ho
    · rw [if_neg e, if_neg e]
      have hi' : i < s.F.length := by have : i < (s.F.set k bs).length := hi; rwa [List.length_set] at this
      exact hown (h.fb i hi')
  · show ((s.F.set k bs).getD i []).length ≤ 256
    rw [hgetb]
    by_cases e : i = k
    · rw [if_pos e]; exact hz
    · rw [if_neg e]; exact h.sizes i
end
/- Write -/
def writeO (s : RD) (x : Int) (n : Nat) : Int := if x < 0 ∨ (s.F.length : Int) ≤ x ∨ n ≠ s.size then 2 else if s.B.getD x.toNat false then 5 else 0
def afterWrite (s : RD) (x : Int) (bs : List Nat) : RD := if writeO s x bs.length = 0 then { s with W := s.W ++ [(x, bs)] } else s
theorem getD_snoc {α : Type} (l : List α) (x d : α) (k : Nat) : (l ++ [x]).getD k d = if k = l.length then x else l.getD k d := by
  rw [List.getD_eq_getElem?_getD, List.getD_eq_getElem?_getD]
  by_cases h : k < l.length
  · rw [List.getElem?_append_left h, if_neg (by omega)]
  · by_cases e : k = l.length
    · subst e; simp
    · rw [if_neg e, List.getElem?_eq_none (by simp; omega), List.getElem?_eq_none (by omega)]
/-- All its blocks but its own are of a set. -/
structure RL.In (fp : Nat → Prop) (L : RL) : Prop where
  f : ∀ b ∈ blk L.AF, fp b
  vf : ∀ v ∈ L.vF, ∀ b ∈ blk v.a, fp b
  w : ∀ b ∈ blk L.AW, fp b
  vw : ∀ v ∈ L.vW, ∀ b ∈ blk v.s.a, fp b
  b : ∀ b ∈ blk L.AB, fp b
theorem RL.In.mono {fp fq : Nat → Prop} {L : RL} (h : L.In fp) (k : ∀ b, fp b → fq b) : L.In fq :=
  ⟨fun b hb => k b (h.f b hb), fun v hv b hb => k b (h.vf v hv b hb), fun b hb => k b (h.w b hb), fun v hv b hb => k b (h.vw v hv b hb), fun b hb => k b (h.b b hb)⟩
/-- What Write leaves. -/
def Wrote (w : World) (base g : Nat) (s : RD) (L : RL) (x : Int) (bs : List Nat) (e : Ending) (w' : World) : Prop := e = .returned (.int .i64 (writeO s x bs.length)) ∧ (∃ L', Hid (RDisk w' base g (afterWrite s x bs) L') ∧ Hid (∀ fp : Nat → Prop, L.In fp → L'.In (fun b => fp b ∨ w.heap.size ≤ b))) ∧ Hid (Turn (fun b => b = g) w w')
set_option maxHeartbeats 8000000 in
theorem refwrite_any (x : Int) (A2 : Option Addr) (n2 c2 : Nat) (bs : List Nat) (g base : Nat) (s : RD) (L : RL) (w : World) (hD : RDisk w base g s L) (hm : s.W.length < 1000) (hn2 : n2 ≤ 9223372036854775807) (hbs : Bytes w w.heap.size A2 n2 bs) (hbase : base ≤ w.heap.size) :
    Calls Try.prog 31 #[.pointer (some ⟨g, 0, none⟩), .int .i64 x, .slice A2 n2 c2] w (Wrote w base g s L x bs) := by
  have HD := Lib.hid hD
  obtain ⟨c0, c1, c2', c3⟩ := hD.cells
  have hfew := hD.few
  have hsize := hD.size
  have hsame := hD.same
  have hbl := hbs.len
  have HBS := Lib.hid hbs
  obtain ⟨n, HN⟩ : ∃ n, Hid (n = s.F.length) := ⟨_, rfl⟩
  obtain ⟨z, HZ⟩ : ∃ z, Hid (z = s.size) := ⟨_, rfl⟩
  obtain ⟨m, HM⟩ : ∃ m, Hid (m = s.W.length) := ⟨_, rfl⟩
  rw [← hsame] at c2'
  rw [← HN.out] at c0 c2' hfew
  rw [← HZ.out] at c3 hsize
  rw [← HM.out] at c1 hm
  have same_ : ∀ q, writeO s x bs.length = q → q ≠ 0 → Wrote w base g s L x bs (.returned (.int .i64 q)) w := fun q h1 h2 => ⟨by rw [h1], ⟨L, by unfold afterWrite; rw [h1, if_neg h2]; exact HD, fun fp h => h.mono fun b hb => Or.inl hb⟩, Turn.refl _ _⟩
  have HSM := Lib.hid same_
  clear hD hsame hbs same_
  by_cases h0 : x < 0
  · have HF := Lib.hid (HSM.out 2 (if_pos (Or.inl h0)) (by omega))
    go_enter Try.func31, Try.ntmps31
    go_wp2_with fail
    go_ret
    exact HF.out
  by_cases h1 : (n : Int) ≤ x
  · have HF := Lib.hid (HSM.out 2 (if_pos (Or.inr (Or.inl (by rw [← HN.out]; exact h1)))) (by omega))
    go_enter Try.func31, Try.ntmps31
    go_wp2_with fail
    go_ret
    exact HF.out
  obtain ⟨k, rfl⟩ : ∃ k : Nat, x = (k : Int) := ⟨x.toNat, by omega⟩
  have hk : k < n := by omega
  have i0 : (0 : Int) ≤ (k : Int) := by omega
  have i1 : (k : Int) < (n : Int) := by omega
  by_cases h2 : n2 = z
  · obtain ⟨ad, e1, e2, e3⟩ := HD.out.broken (k := k) (by rw [← HN.out]; exact hk)
    rw [e1] at c2'
    have HW : Hid (writeO s (k : Int) bs.length = if s.B.getD k false then 5 else 0) := by
      show _ = _
      unfold writeO
      rw [if_neg (by rw [← HN.out, ← HZ.out]; omega), Int.toNat_natCast]
    have b2 : ((n2 : Int) != (z : Int)) = false := by simp; omega
    rcases hb : s.B.getD k false with _ | _
    · rw [hb] at HW e3
      have HW0 : Hid (writeO s (k : Int) bs.length = 0) := HW.out
      obtain ⟨A3, q3, W3, hr3, ho3, hb3⟩ : ∃ A3 q3 W3, (Builtin.append_ #[waitK.L, waitK.L] waitK.L #[.slice none 0 0, .slice L.AW m L.cW]).run Try.prog w = .ok (.slice A3 m q3) W3 ∧ waitK.Row W3 w.heap.size A3 m q3 L.vW ∧ Below w.heap.size w W3 := by
        obtain ⟨A3, q3, W3, hr, ho, hg⟩ := Kind.append_b (K := waitK) (c' := L.cW) (Nat.le_refl w.heap.size) Kind.Row.none_ (A' := L.AW) (m := m) (us := L.vW) (by rw [HM.out]; exact HD.out.wr.lie) (by omega)
        rw [Nat.zero_add] at hr ho
        rw [List.nil_append] at ho
        exact ⟨A3, q3, W3, hr, ho, ⟨hg.os, hg.tape, hg.output, hg.size, fun i hi => hg.block i hi (by simp [Value.ownBlock])⟩⟩
      have R3 := Lib.hid hr3
      obtain ⟨A4, q4, W4, hr4, ho4, hb4⟩ := own_append (c' := c2) (Below.refl W3.heap.size W3) Own.none_ (HBS.out.since hb3) (by omega)
      rw [Nat.zero_add] at hr4 ho4
      rw [List.nil_append] at ho4
      have R4 := Lib.hid hr4
      have Q4 := ho3.since hb4
      have S4 := below_chain hb3 hb4
      obtain ⟨A5, q5, W5, hr5, ho5, hg5⟩ := Kind.append_one_b (K := waitK) S4.size Q4 (⟨(k : Int), ⟨A4, n2, q4⟩⟩ : WV) trivial #[.int .i64 (k : Int), .slice A4 n2 q4] rfl (by omega)
      have R5 := Lib.hid hr5
      have S5 : Below w.heap.size w W5 := S4.grown hg5 S4.size (fun b hb => (Q4.row.lt b hb).1)
      have D5 := HD.out.since S5
      have T5 : Below W3.heap.size W3 W4 := hb4
      have o4 : Own W5 base A4 n2 q4 bs := by
        refine (ho4.elder (Nat.le_trans hbase hb3.size)).at_block fun b hb => hg5.block b (ho4.blk_lt b hb) fun e => ?_
        obtain ⟨c6, hc6⟩ := ho4.typed b hb
        have hbA : b ∈ blk A3 := by
          cases A3 with
          | none => cases e
          | some a => simp [blk]; simpa [Value.ownBlock] using e
        obtain ⟨c7, hc7⟩ := Row.typed Q4 b hbA
        exact absurd (other_type hc6 hc7) (by rw [waitK_T]; decide)
      have hset := D5.set_w (A := A5) (c := q5) (vW := L.vW ++ [⟨(k : Int), ⟨A4, n2, q4⟩⟩]) (W' := s.W ++ [((k : Int), bs)]) (by rw [List.length_append, List.length_singleton, ← HM.out]; exact ho5.elder hbase) (fun i hi => by
          rw [getD_snoc, getD_snoc, HD.out.wr.len]
          by_cases e : i = s.W.length
          · rw [if_pos e, if_pos e]; exact ⟨rfl, o4⟩
          · rw [if_neg e, if_neg e]
            exact D5.wb i (by rw [List.length_append, List.length_singleton] at hi; omega)) (by rw [List.length_append, List.length_singleton, ← HM.out]; omega) (fun i => by
          rw [getD_snoc]
          by_cases e : i = s.W.length
          · rw [if_pos e]; show bs.length ≤ 256; omega
          · rw [if_neg e]; exact D5.sizew i) (fun i hi => by
          rw [getD_snoc]
          by_cases e : i = s.W.length
          · rw [if_pos e]; exact ⟨i0, by rw [← HN.out]; exact i1⟩
          · rw [if_neg e]; exact D5.ins i (by rw [List.length_append, List.length_singleton] at hi; omega))
      rw [List.length_append, List.length_singleton, ← HM.out] at hset
      have HSET : Hid (RDisk (W5.setCell ⟨g, 1, none⟩ (.slice A5 (m + 1) q5)) base g (afterWrite s (k : Int) bs) { L with AW := A5, cW := q5, vW := L.vW ++ [⟨(k : Int), ⟨A4, n2, q4⟩⟩] }) := by
        show RDisk _ _ _ _ _
        unfold afterWrite
        rw [HW0.out, if_pos rfl]
        exact hset
      have HIN : Hid (∀ fp : Nat → Prop, L.In fp → RL.In (fun b => fp b ∨ w.heap.size ≤ b) { L with AW := A5, cW := q5, vW := L.vW ++ [⟨(k : Int), ⟨A4, n2, q4⟩⟩] }) := fun fp h =>
        ⟨fun b hb => Or.inl (h.f b hb), fun v hv b hb => Or.inl (h.vf v hv b hb), fun b hb => Or.inr (Row.blk_ge ho5 b hb), fun v hv b hb => by
          rcases List.mem_append.1 hv with hv | hv
          · exact Or.inl (h.vw v hv b hb)
          · rw [List.mem_singleton.1 hv] at hb
            exact Or.inr (Nat.le_trans hb3.size (ho4.blk_ge b hb)), fun b hb => Or.inl (h.b b hb)⟩
      have TT : Hid (Turn (fun b => b = g) w (W5.setCell ⟨g, 1, none⟩ (.slice A5 (m + 1) q5))) := (Turn.of_below S5).trans (Turn.of_setCell (fp := fun b => b = g) ⟨g, 1, none⟩ (.slice A5 (m + 1) q5) rfl) fun b hb => Or.inl hb
      have hf1 := D5.free 1
      have hcw : ∃ u, W5.cell? ⟨g, 1, none⟩ = some u := ⟨_, D5.cells.c1⟩
      obtain ⟨u, hu⟩ := hcw
      clear hr3 ho3 hb3 hr4 ho4 hb4 hr5 ho5 hg5 Q4 S4 S5 D5 T5 o4 hset hbl h2 h0 h1
      go_enter Try.func31, Try.ntmps31
      go_wp2_with (first | (at_builtin; refine wpList_append_run rfl (.const (.slice none 0 0)) (.tmp 38) 66 rfl rfl rfl R3.out ?_) | (at_builtin; refine wpList_append_run rfl (.const (.slice none 0 0)) (.tmp 41) 34 rfl rfl rfl R4.out ?_) | (at_builtin; refine wpList_append_run rfl (.tmp 39) (.tmp 44) 66 rfl rfl rfl R5.out ?_))
      go_ret
      exact ⟨by rw [HW0.out]; rfl, ⟨_, HSET, HIN⟩, TT⟩
    · rw [hb] at HW e3
      have HF := Lib.hid (HSM.out 5 HW.out (by omega))
      go_enter Try.func31, Try.ntmps31
      go_wp2_with fail
      go_ret
      exact HF.out
  · have HF := Lib.hid (HSM.out 2 (if_pos (Or.inr (Or.inr (by rw [← HZ.out]; omega)))) (by omega))
    have b2 : ((n2 : Int) != (z : Int)) = true := by simp; omega
    go_enter Try.func31, Try.ntmps31
    go_wp2_with fail
    go_ret
    exact HF.out
end Go.Proofs.Ytfhfjfgajbgdcaa
