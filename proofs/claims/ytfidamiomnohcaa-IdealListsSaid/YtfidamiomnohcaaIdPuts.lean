/- The landed ideal's at, and put by what the map's operation does. Conditions: an ideal that stands so; lists of at most 8000. The landed ideal's put, as what it makes of the state. Conditions: an ideal that stands so, but for the row at that address; fewer than 1000 addresses. -/
import Derived.Test.YtfidamiomnohcaaIdRp
set_option linter.unusedVariables false
set_option linter.unusedSimpArgs false
set_option maxRecDepth 20000
namespace Go.Proofs.Ytfidamiomnohcaa
section
open Go.RowKit

section
variable {P : Program} {ops : Array Oper} {o : Oper} {a : Act} {w w' : World} {Q : Exit → Act → World → Prop} {rest : List Oper} {v u z r : Value}
theorem wpList_delete_run (hg : o.guard = none) (m x : Operand) (t k : TypeId) (hop : o.op = Op.call { callee := Callee.builtin Builtin.delete, args := #[m, x], argTypes := #[t, k] }) (hm : a.eval m = v) (hx : a.eval x = u)
    (hr : (Builtin.delete_ #[t, k] o.type #[v, u]).run P w = .ok r w') (h : wpList P ops Q rest (a.put o.dst r) w') : wpList P ops Q (o :: rest) a w := by
  refine wpList_plain hg fun K' hK' => ?_
  unfold Oper.wp
  simp [execOp, hop, resolve, invoke, builtin, hm, hx, hr, Result.andThen]
  exact hK' _ _ h
theorem wpList_update_run (hg : o.guard = none) (m x y : Operand) (t : TypeId) (hop : o.op = Op.mapUpdate t m x y) (hm : a.eval m = v) (hx : a.eval x = u) (hy : a.eval y = z)
    (hr : (Instr.mapUpdate t v u z).run P w = .ok () w') (h : wpList P ops Q rest (a.put o.dst undef) w') : wpList P ops Q (o :: rest) a w := by
  refine wpList_plain hg fun K' hK' => ?_
  unfold Oper.wp
  simp [execOp, hop, hm, hx, hy, hr, Result.andThen]
  exact hK' _ _ h
end
theorem equalIn_map (d : Nat) (p : Option Nat) (w : World) : (Op.equalIn (d + 1) 58 (.map p) (.map none)).run Try.prog w = .ok p.isNone w := by
  cases p <;> simp [Op.equalIn, run_underlying Try.underlying58]
theorem eql_map (p : Option Nat) (w : World) : (binOp .eql 58 (.map p) (.map none)).run Try.prog w = .ok (.bool p.isNone) w := by
  simp only [binOp]
  simp [show Op.equal 58 (.map p) (.map none) = Op.equalIn (9999 + 1) 58 (.map p) (.map none) from rfl, equalIn_map 9999 p w]
theorem eql_map_some (b : Nat) (w : World) : (binOp .eql 58 (.map (some b)) (.map none)).run Try.prog w = .ok (.bool false) w := eql_map (some b) w
theorem eql_map_none (w : World) : (binOp .eql 58 (.map none) (.map none)).run Try.prog w = .ok (.bool true) w := eql_map none w
/-- What at leaves. -/
def AtOut (w : World) (s : IS) (L : IdL) (a : Int) (e : Ending) (w' : World) : Prop :=
  ∃ r n c, e = .returned (.slice (some ⟨r, 0, none⟩) n c) ∧ Hid (Below w.heap.size w w') ∧ Hid (thK.Lie w' w'.heap.size (some ⟨r, 0, none⟩) n (s.f a)) ∧
    Hid ((a ∈ s.ks ∧ r = L.g a ∧ n = (s.f a).length ∧ c = L.c a) ∨ thK.Row w' w.heap.size (some ⟨r, 0, none⟩) n c (s.f a))
section
variable {w : World} {base o : Nat} {fp : Nat → Prop} {s : IS} {L : IdL} {a : Int}
set_option maxHeartbeats 2000000 in
theorem at_any (h : IdIn w base fp o s L) (hu : U64 a) : Calls Try.prog 51 #[.pointer (some ⟨o, 0, none⟩), .int .u64 a] w (AtOut w s L a) := by
  have c1 := h.but.c1
  by_cases ha : a ∈ s.ks
  · obtain ⟨b, hb⟩ : ∃ b, L.mp = some b := by
      cases e : L.mp with
      | some b => exact ⟨b, rfl⟩
      | none => rw [h.but.nil e] at ha; cases ha
    have hl := (h.map b hb).look_yes ha
    unfold elemOf at hl
    rw [hb] at c1
    have HL := Lib.hid (h.but.rows a ha (fun q => q)).lie
    have HW := Lib.hid (Below.refl w.heap.size w)
    have HA := Lib.hid ha
    obtain ⟨n, HN⟩ : ∃ n, Hid ((s.f a).length = n) := ⟨_, rfl⟩
    obtain ⟨c, HC⟩ : ∃ n, Hid (L.c a = n) := ⟨_, rfl⟩
    obtain ⟨g, HG⟩ : ∃ n, Hid (L.g a = n) := ⟨_, rfl⟩
    rw [HN.out, HC.out, HG.out] at hl
    rw [HN.out, HG.out] at HL
    clear h hb ha hu
    go_enter Try.func51, Try.ntmps51
    go_wp2_with fail
    go_ret
    exact ⟨_, _, _, rfl, HW, HL, Or.inl ⟨HA.out, HG.out.symm, HN.out.symm, HC.out.symm⟩⟩
  · have HO := Lib.hid (h.but.ok.out ha)
    have hl : (Instr.lookup 58 (.map L.mp) (.int .u64 a) true).run Try.prog w = .ok (.tuple #[.slice none 0 0, .bool false]) w := by
      cases e : L.mp with
      | some b => exact (h.map b e).look_no hu ha
      | none => exact look_nil hu w
    obtain ⟨mp, HM⟩ : ∃ m, Hid (L.mp = m) := ⟨_, rfl⟩
    rw [HM.out] at c1 hl
    have HR : Hid (thK.Row (w.alloc (.cells #[.int .i64 0, .string ByteArray.empty] 85)) w.heap.size (some ⟨w.heap.size, 0, none⟩) 1 1 (s.f a)) := by
      show thK.Row _ _ _ _ _ _
      rw [HO.out]
      exact lie_lit_th w Th.zero ok_zero
    have HW : Hid (Below w.heap.size w (w.alloc (.cells #[.int .i64 0, .string ByteArray.empty] 85))) := (Below.refl _ _).alloc (Nat.le_refl _) _
    clear h ha hu HM
    go_enter Try.func51, Try.ntmps51
    go_wp2_with fail
    go_ret
    exact ⟨_, _, _, rfl, HW, HR.out.lie, Or.inr HR.out⟩
set_option maxHeartbeats 2000000 in
theorem put_del (w1 : World) (mp : Option Nat) (A : Option Addr) (n c : Nat) (l : List Th) (h1 : w.cell? ⟨o, 1, none⟩ = some (.map mp)) (h0 : 0 < n) (hn : n ≤ 8000) (hl : thK.Lie w w.heap.size A n l) (hb : isBlk l = false)
    (hr : ∀ ty, (Builtin.delete_ #[58, 29] ty #[.map mp, .int .u64 a]).run Try.prog w = .ok (.tuple #[]) w1) :
    Calls Try.prog 37 #[.pointer (some ⟨o, 0, none⟩), .int .u64 a, .slice A n c] w fun e w' => e = .returned (.tuple #[]) ∧ w' = w1 := by
  have C := Lib.hid (isblk_any A n c l w h0 hn hl)
  rw [hb] at C
  have HR := Lib.hid hr
  clear hr hl hb
  go_enter Try.func37, Try.ntmps37
  go_wp2_with fail
  refine C.out.mono ?_
  rintro e w' ⟨rfl, hw⟩
  subst hw
  go_wp2_with (at_delete; refine wpList_delete_run rfl _ _ 58 29 rfl rfl rfl (HR.out _) ?_)
  simp only [Act.put]
  refine bodyPost_ret (results_none rfl _ _ _) rfl ?_
  exact ⟨rfl, rfl⟩
set_option maxHeartbeats 2000000 in
theorem put_upd (w1 : World) (b : Nat) (A : Option Addr) (n c : Nat) (l : List Th) (h1 : w.cell? ⟨o, 1, none⟩ = some (.map (some b))) (h0 : 0 < n) (hn : n ≤ 8000) (hl : thK.Lie w w.heap.size A n l) (hb : isBlk l = true)
    (hr : (Instr.mapUpdate 58 (.map (some b)) (.int .u64 a) (.slice A n c)).run Try.prog w = .ok () w1) :
    Calls Try.prog 37 #[.pointer (some ⟨o, 0, none⟩), .int .u64 a, .slice A n c] w fun e w' => e = .returned (.tuple #[]) ∧ w' = w1 := by
  have C := Lib.hid (isblk_any A n c l w h0 hn hl)
  rw [hb] at C
  have HR := Lib.hid hr
  have heq := eql_map_some b
  clear hr hl hb
  go_enter Try.func37, Try.ntmps37
  go_wp2_with fail
  refine C.out.mono ?_
  rintro e w' ⟨rfl, hw⟩
  subst hw
  go_wp2_with (at_mapUpdate; refine wpList_update_run rfl _ _ _ 58 rfl rfl rfl rfl HR.out ?_)
  try simp only [Act.put]
  go_end0
  exact ⟨rfl, rfl⟩
set_option maxHeartbeats 2000000 in
theorem put_new (w1 : World) (A : Option Addr) (n c : Nat) (l : List Th) (h1 : w.cell? ⟨o, 1, none⟩ = some (.map none)) (f1 : w.frozen? ⟨o, 1, none⟩ = false) (h0 : 0 < n) (hn : n ≤ 8000) (hl : thK.Lie w w.heap.size A n l) (hb : isBlk l = true) (hol : o < w.heap.size)
    (hr : (Instr.mapUpdate 58 (.map (some w.heap.size)) (.int .u64 a) (.slice A n c)).run Try.prog ((w.setCell ⟨o, 1, none⟩ (.map (some w.heap.size))).alloc (.map #[] 0)) = .ok () w1) :
    Calls Try.prog 37 #[.pointer (some ⟨o, 0, none⟩), .int .u64 a, .slice A n c] w fun e w' => e = .returned (.tuple #[]) ∧ w' = w1 := by
  have C := Lib.hid (isblk_any A n c l w h0 hn hl)
  rw [hb] at C
  have HR := Lib.hid hr
  have heq := eql_map_none
  have hmm := @run_makeMap Try.prog
  have k1 : (w.alloc (.map #[] 0)).cell? ⟨o, 1, none⟩ = some (.map none) := (World.cell?_alloc_lt w _ ⟨o, 1, none⟩ hol).trans h1
  have k2 : (w.alloc (.map #[] 0)).frozen? ⟨o, 1, none⟩ = false := by rw [World.frozen?_alloc_past _ _ _ hol]; exact f1
  clear hr hl hb
  go_enter Try.func37, Try.ntmps37
  go_wp2_with fail
  refine C.out.mono ?_
  rintro e w' ⟨rfl, hw⟩
  subst hw
  go_wp2_with (at_mapUpdate; refine wpList_update_run rfl _ _ _ 58 rfl rfl rfl rfl HR.out ?_)
  try simp only [Act.put]
  go_end0
  exact ⟨rfl, rfl⟩
end
end

section
open Go.RowKit

section
variable {w w1 : World} {base o b r n c : Nat} {fp : Nat → Prop} {s : IS} {L : IdL} {a : Int} {l : List Th} {ks ls : List Int} {F G : Int → Value}
theorem Link.congr {D : DataW Value} (h : Link D ks F) (e : ∀ x ∈ ks, F x = G x) : Link D ks G := ⟨h.has, fun x hx z => by rw [h.at_ x hx, e x hx], h.u64, h.nodup, h.size⟩
theorem MapF.congr (h : MapF w b ks F) (e : ∀ x ∈ ks, F x = G x) : MapF w b ks G := by
  obtain ⟨D, h1, h2⟩ := h
  exact ⟨D, h1, h2.congr e⟩
theorem RangeF.congr (h : RangeF w b r ks F ls) (e : ∀ x ∈ ks, F x = G x) : RangeF w b r ks G ls := by
  obtain ⟨D, n, left, cnt, h1, h2, h3⟩ := h
  exact ⟨D, n, left, cnt, h1, h2.congr e, h3⟩
def putL (L : IdL) (mp : Option Nat) (a : Int) (r c : Nat) : IdL := ⟨mp, upd L.g a r, upd L.c a c⟩
def putP (fp : Nat → Prop) (r : Nat) (nw : Option Nat) : Nat → Prop := fun b => fp b ∨ b = r ∨ nw = some b
/-- What is asked of the row that is put. -/
structure PutRow (w : World) (base : Nat) (o : Nat) (s : IS) (L : IdL) (a : Int) (r n c : Nat) (l : List Th) : Prop where
  row : thK.Row w base (some ⟨r, 0, none⟩) n c l
  lok : LOk l
  no : r ≠ o
  nm : ∀ m, L.mp = some m → r ≠ m
  ng : ∀ y ∈ s.ks, y ≠ a → L.g y ≠ r
theorem PutRow.lt (h : PutRow w base o s L a r n c l) : r < w.heap.size := Row.blk_lt h.row r (by simp [blk])
theorem PutRow.ge (h : PutRow w base o s L a r n c l) : base ≤ r := Row.blk_ge h.row r (by simp [blk])
theorem ks_put (s : IS) (a : Int) (l : List Th) {y : Int} (hy : y ∈ (putS s a l).ks) : (y = a ∧ isBlk l = true) ∨ (y ≠ a ∧ y ∈ s.ks) := by
  have hy' : y ∈ (if isBlk l then insK s.ks a else strike s.ks a) := hy
  by_cases e : y = a
  · subst e
    split at hy'
    · next hb => exact Or.inl ⟨rfl, hb⟩
    · exact absurd rfl (mem_strike.1 hy').1
  · split at hy'
    · exact Or.inr ⟨e, (mem_insK.1 hy').resolve_left e⟩
    · exact Or.inr ⟨e, (mem_strike.1 hy').2⟩
theorem IdBut.put (h : IdBut w base fp o s L (fun y => y = a)) (hu : U64 a) (hp : PutRow w base o s L a r n c l) (mp nw : Option Nat) (hz : w.heap.size ≤ w1.heap.size)
    (hk : ∀ b, (fp b ∨ b = r) → b ≠ o → (∀ q, L.mp = some q → b ≠ q) → w1.heap[b]? = w.heap[b]?) (hom : ∀ q, L.mp = some q → o ≠ q)
    (ho : w1.heap[o]? = some (.cells #[.int .i64 s.size, .map mp] 60 (0, 0))) (hmp : mp = L.mp ∨ (L.mp = none ∧ mp = nw)) (hm : ∀ m, nw = some m → w.heap.size ≤ m ∧ m < w1.heap.size) (hb : base ≤ w.heap.size) (hnb : mp = none → isBlk l = false) :
    IdBut w1 base (putP fp r nw) o (putS s a l) (putL L mp a r c) (fun _ => False) := by
  have hl := hp.row.len
  have hrl := hp.lt
  refine ⟨ho, Or.inl h.fo, fun q hq => ?_, fun y hy _ => ?_, fun y hy => ?_, fun y hy y' hy' e => ?_, fun y hy q hq => ?_, fun y hy => ?_, fun q hq => ?_, fun q hq => ?_, fun hq => ?_, put_ok h.ok hu hp.lok⟩
  · have hq' : mp = some q := hq
    rcases hmp with e | ⟨e1, e2⟩
    · exact Or.inl (h.fm q (e ▸ hq'))
    · rw [e2] at hq'
      exact Or.inr (Or.inr hq')
  · rcases ks_put s a l hy with ⟨rfl, _⟩ | ⟨e, hy⟩
    · show thK.Row w1 base (some ⟨upd L.g y r y, 0, none⟩) (upd s.f y l y).length (upd L.c y c y) (upd s.f y l y)
      rw [upd_self, upd_self, upd_self, hl]
      refine Row.at_block hp.row fun b hb2 => ?_
      have : b = r := by simpa [blk] using hb2
      subst this
      exact hk b (Or.inr rfl) hp.no hp.nm
    · show thK.Row w1 base (some ⟨upd L.g a r y, 0, none⟩) (upd s.f a l y).length (upd L.c a c y) (upd s.f a l y)
      rw [upd_ne _ _ e, upd_ne _ _ e, upd_ne _ _ e]
      refine Row.at_block (h.rows y hy e) fun b hb2 => ?_
      have : b = L.g y := by simpa [blk] using hb2
      subst this
      exact hk _ (Or.inl (h.fr y hy)) (h.go y hy) fun q hq => h.gm y hy q hq
  · show putP fp r nw (upd L.g a r y)
    rcases ks_put s a l hy with ⟨rfl, _⟩ | ⟨e, hy⟩
    · rw [upd_self]; exact Or.inr (Or.inl rfl)
    · rw [upd_ne _ _ e]; exact Or.inl (h.fr y hy)
  · have e' : upd L.g a r y = upd L.g a r y' := e
    rcases ks_put s a l hy with ⟨rfl, _⟩ | ⟨e1, hy1⟩
    · rcases ks_put s y l hy' with ⟨rfl, _⟩ | ⟨e2, hy2⟩
      · rfl
      · rw [upd_self, upd_ne _ _ e2] at e'
        exact absurd e'.symm (hp.ng y' hy2 e2)
    · rcases ks_put s a l hy' with ⟨rfl, _⟩ | ⟨e2, hy2⟩
      · rw [upd_self, upd_ne _ _ e1] at e'
        exact absurd e' (hp.ng y hy1 e1)
      · rw [upd_ne _ _ e1, upd_ne _ _ e2] at e'
        exact h.apart y hy1 y' hy2 e'
  · have hq' : mp = some q := hq
    show upd L.g a r y ≠ q
    have hgl : upd L.g a r y < w.heap.size := by
      rcases ks_put s a l hy with ⟨rfl, _⟩ | ⟨e, hy⟩
      · rw [upd_self]; exact hrl
      · rw [upd_ne _ _ e]; exact h.lt _ (h.fr y hy)
    rcases hmp with e0 | ⟨e0, e2⟩
    · rw [e0] at hq'
      rcases ks_put s a l hy with ⟨rfl, _⟩ | ⟨e, hy⟩
      · rw [upd_self]; exact hp.nm q hq'
      · rw [upd_ne _ _ e]; exact h.gm y hy q hq'
    · rw [e2] at hq'
      have := (hm q hq').1
      omega
  · show upd L.g a r y ≠ o
    rcases ks_put s a l hy with ⟨rfl, _⟩ | ⟨e, hy⟩
    · rw [upd_self]; exact hp.no
    · rw [upd_ne _ _ e]; exact h.go y hy
  · rcases hq with hq | rfl | e
    · exact Nat.lt_of_lt_of_le (h.lt q hq) hz
    · exact Nat.lt_of_lt_of_le hrl hz
    · exact (hm q e).2
  · rcases hq with hq | rfl | e
    · exact h.ge q hq
    · exact hp.ge
    · exact Nat.le_trans hb (hm q e).1
  · have hq' : mp = none := hq
    have hnl := hnb hq'
    have hmn : L.mp = none := by
      rcases hmp with e | ⟨e, _⟩
      · rw [← e]; exact hq'
      · exact e
    show (if isBlk l then insK s.ks a else strike s.ks a) = []
    rw [hnl, h.nil hmn]; rfl
theorem elem_put (s : IS) (L : IdL) (mp : Option Nat) (a : Int) (r c : Nat) (l : List Th) : elemOf (putS s a l) (putL L mp a r c) = upd (elemOf s L) a (.slice (some ⟨r, 0, none⟩) l.length c) := by
  funext y
  show Value.slice (some ⟨upd L.g a r y, 0, none⟩) (upd s.f a l y).length (upd L.c a c y) = _
  by_cases e : y = a
  · subst e
    rw [upd_self, upd_self, upd_self, upd_self]
  · rw [upd_ne _ _ e, upd_ne _ _ e, upd_ne _ _ e, upd_ne _ _ e]; rfl
theorem elem_same (s : IS) (L : IdL) (mp : Option Nat) (a : Int) (r c : Nat) (l : List Th) {y : Int} (h : y ≠ a) : elemOf (putS s a l) (putL L mp a r c) y = elemOf s L y := by rw [elem_put, upd_ne _ _ h]
theorem nodup_put (h : s.Ok) (a : Int) (l : List Th) : (putS s a l).ks.Nodup := by
  show (if isBlk l then insK s.ks a else strike s.ks a).Nodup
  split
  · exact (ris_insK h.ris).nodup
  · exact Ris.nodup (ris_filter _ h.ris)
/-- What put leaves. -/
def PutEnd (w : World) (base : Nat) (fp : Nat → Prop) (o : Nat) (s : IS) (a : Int) (r : Nat) (l : List Th) (e : Ending) (w' : World) : Prop :=
  e = .returned (.tuple #[]) ∧ ∃ fp', Hid (IdAt w' base fp' o (putS s a l)) ∧ Hid (Turn fp w w') ∧ Hid (∀ b, fp' b → fp b ∨ b = r ∨ w.heap.size ≤ b)
/-- The facts on the other blocks, where one block alone turns. -/
theorem grown_else {w w1 : World} {q : Nat} (hg : w.grownBy w1 (some q)) {b : Nat} (hb : b < w.heap.size) (hn : b ≠ q) : w1.heap[b]? = w.heap[b]? := hg.block b hb fun e => hn (Option.some.inj e)
theorem put_any (h : IdBut w base fp o s L (fun y => y = a)) (hm : ∀ b, L.mp = some b → MapF w b s.ks (elemOf s L)) (hu : U64 a) (hp : PutRow w base o s L a r n c l) (hn : n ≤ 8000) (hks : s.ks.length ≤ 999) (hb : base ≤ w.heap.size) (hom : ∀ q, L.mp = some q → o ≠ q) :
    Calls Try.prog 37 #[.pointer (some ⟨o, 0, none⟩), .int .u64 a, .slice (some ⟨r, 0, none⟩) n c] w (PutEnd w base fp o s a r l) := by
  have hl := hp.row.len
  have h0 : 0 < n := by rw [← hl]; exact List.length_pos_iff.2 hp.lok.ne
  have hol := h.lt o h.fo
  have hc1 := h.c1
  have hfl : ∀ b, (fp b ∨ b = r) → b < w.heap.size := fun b hq => hq.elim (h.lt b) fun e => e ▸ hp.lt
  rcases hbl : isBlk l with _ | _
  · rcases hmp : L.mp with _ | b
    · rw [hmp] at hc1
      refine (put_del (a := a) w none _ n c l hc1 h0 hn hp.row.lie hbl (fun ty => drop_nil hu ty w)).mono ?_
      rintro e w' ⟨rfl, hw⟩
      subst hw
      exact ⟨rfl, putP fp r none, ⟨putL L L.mp a r c, IdBut.put h hu hp L.mp none (Nat.le_refl _) (fun b _ _ _ => rfl) hom h.obj (Or.inl rfl) (fun m e => (by cases e)) hb (fun _ => hbl), fun q hq => by
        have : L.mp = some q := hq
        rw [hmp] at this; cases this⟩, Turn.refl _ _, fun q hq => hq.imp id (Or.imp id fun z => (by cases z))⟩
    · rw [hmp] at hc1
      have hdis : ∀ y, y ∈ (putS s a l).ks ↔ y ≠ a ∧ y ∈ s.ks := fun y => by
        show y ∈ (if isBlk l then _ else strike s.ks a) ↔ _
        rw [if_neg (by rw [hbl]; simp)]; exact mem_strike
      have hdr := fun ty => (hm b hmp).drop (ks' := (putS s a l).ks) hu ty (nodup_put h.ok a l) hdis
      obtain ⟨w1, hr1, hM, hg, hsz⟩ := hdr 0
      have hr1' : ∀ ty, (Builtin.delete_ #[58, 29] ty #[.map (some b), .int .u64 a]).run Try.prog w = .ok (.tuple #[]) w1 := fun ty => by
        obtain ⟨w2, hr2, _⟩ := hdr ty
        have : (Builtin.delete_ #[58, 29] ty #[.map (some b), .int .u64 a]).run Try.prog w = (Builtin.delete_ #[58, 29] 0 #[.map (some b), .int .u64 a]).run Try.prog w := rfl
        rw [this]; exact hr1
      refine (put_del (a := a) w1 (some b) _ n c l hc1 h0 hn hp.row.lie hbl hr1').mono ?_
      rintro e w' ⟨rfl, hw⟩
      subst hw
      have hne : ∀ q, L.mp = some q → q = b := fun q hq => by rw [hmp] at hq; exact (Option.some.inj hq).symm
      exact ⟨rfl, putP fp r none, ⟨putL L L.mp a r c, IdBut.put h hu hp L.mp none (Nat.le_of_eq hsz.symm) (fun q hq _ hnm => grown_else hg (hfl q hq) (hnm b hmp)) hom ((grown_else hg hol (hom b hmp)).trans h.obj) (Or.inl rfl) (fun m e => (by cases e)) hb (fun _ => hbl), fun q hq => by
        obtain rfl := hne q hq
        exact hM.congr fun y hy => (elem_same s L L.mp a r c l ((hdis y).1 hy).1).symm⟩, Turn.of_grown hg fun q hq => by rw [← Option.some.inj hq]; exact h.fm b hmp, fun q hq => hq.imp id (Or.imp id fun z => (by cases z))⟩
  · have hins : ∀ y, y ∈ (putS s a l).ks ↔ y = a ∨ y ∈ s.ks := fun y => by
      show y ∈ (if isBlk l then insK s.ks a else _) ↔ _
      rw [if_pos hbl]; exact mem_insK
    rcases hmp : L.mp with _ | b
    · rw [hmp] at hc1
      have hks0 := h.nil hmp
      obtain ⟨W, HW⟩ : ∃ W, Hid (w.setCell ⟨o, 1, none⟩ (.map (some w.heap.size)) = W) := ⟨_, rfl⟩
      have hWs : W.heap.size = w.heap.size := by rw [← HW.out]; simp [World.setCell]
      have hM0 : MapF (W.alloc (.map #[] 0)) w.heap.size s.ks (elemOf s L) := by
        have := MapF.made W (elemOf s L)
        rw [hWs] at this
        rw [hks0]; exact this
      obtain ⟨w1, hr1, hM, hg, hsz⟩ := hM0.store (ks' := (putS s a l).ks) hu (by rw [hks0]; simp) (some ⟨r, 0, none⟩) n c (nodup_put h.ok a l) hins
      have hsa : (W.alloc (.map #[] 0)).heap.size = w.heap.size + 1 := by rw [← hWs]; simp
      refine (put_new (o := o) (a := a) w1 _ n c l hc1 (h.free 1) h0 hn hp.row.lie hbl hol (by rw [HW.out]; exact hr1)).mono ?_
      rintro e w' ⟨rfl, hw⟩
      subst hw
      have hold : ∀ b, b < w.heap.size → w'.heap[b]? = W.heap[b]? := fun b hb => by
        rw [grown_else hg (by rw [hsa]; omega) (by omega)]
        exact heap_alloc_old W _ (by rw [hWs]; exact hb)
      have hW : ∀ b, b ≠ o → W.heap[b]? = w.heap[b]? := fun b hb => by rw [← HW.out]; exact setCell_heap w o 1 b _ hb
      have hWo : W.heap[o]? = some (.cells #[.int .i64 s.size, .map (some w.heap.size)] 60 (0, 0)) := by
        rw [← HW.out]
        simp [World.setCell, Array.getElem?_modify, h.obj]
      refine ⟨rfl, putP fp r (some w.heap.size), ⟨putL L (some w.heap.size) a r c, IdBut.put h hu hp (some w.heap.size) (some w.heap.size) (by rw [hsz, hsa]; omega) (fun q hq hqo _ => (hold q (hfl q hq)).trans (hW q hqo)) hom ((hold o hol).trans hWo) (Or.inr ⟨hmp, rfl⟩) (fun m e => by rw [← Option.some.inj e, hsz, hsa]; omega) hb (fun e => (by cases e)), fun q hq => ?_⟩, ?_, fun q hq => hq.imp id (Or.imp id fun z => by rw [Option.some.inj z]; exact Nat.le_refl _)⟩
      · have hq' : some w.heap.size = some q := hq
        obtain rfl := Option.some.inj hq'
        rw [elem_put, hl]
        exact hM
      · refine ⟨?_, ?_, ?_, by rw [hsz, hsa]; omega, fun b hb hn2 => ?_⟩
        · rw [hg.os, ← HW.out]; rfl
        · rw [hg.tape, ← HW.out]; rfl
        · rw [hg.output, ← HW.out]; rfl
        · rw [hold b hb, hW b fun e => hn2 (e ▸ h.fo)]
    · rw [hmp] at hc1
      obtain ⟨w1, hr1, hM, hg, hsz⟩ := (hm b hmp).store (ks' := (putS s a l).ks) hu (by omega) (some ⟨r, 0, none⟩) n c (nodup_put h.ok a l) hins
      refine (put_upd (a := a) w1 b _ n c l hc1 h0 hn hp.row.lie hbl hr1).mono ?_
      rintro e w' ⟨rfl, hw⟩
      subst hw
      have hne : ∀ q, L.mp = some q → q = b := fun q hq => by rw [hmp] at hq; exact (Option.some.inj hq).symm
      refine ⟨rfl, putP fp r none, ⟨putL L L.mp a r c, IdBut.put h hu hp L.mp none (Nat.le_of_eq hsz.symm) (fun q hq _ hnm => grown_else hg (hfl q hq) (hnm b hmp)) hom ((grown_else hg hol (hom b hmp)).trans h.obj) (Or.inl rfl) (fun m e => (by cases e)) hb (fun e => by rw [hmp] at e; cases e), fun q hq => ?_⟩, Turn.of_grown hg fun q hq => by rw [← Option.some.inj hq]; exact h.fm b hmp, fun q hq => hq.imp id (Or.imp id fun z => (by cases z))⟩
      obtain rfl := hne q hq
      rw [elem_put, hl]
      exact hM
end
end
end Go.Proofs.Ytfidamiomnohcaa
