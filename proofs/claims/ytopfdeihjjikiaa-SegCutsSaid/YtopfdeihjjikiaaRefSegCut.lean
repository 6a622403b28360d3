/- The document's own Cut: the same parts. Conditions: the slice's cells; the label at most a million bytes. -/
import Derived.Test.YtopfdeihjjikiaaRefSegPart
import Derived.Test.YtopfdeihjjikiaaRefSegMay
import Derived.Test.YtopfdeihjjikiaaRefLabel
import Derived.Test.YtopfdeihjjikiaaSegCut
set_option linter.unusedVariables false
set_option linter.unusedSimpArgs false
namespace Go.Proofs.Ytopfdeihjjikiaa
open Go.RowKit

/-- Rows of bytes of the call's own, one for each slice. -/
structure Held (w : World) (base : Nat) (vs : List SV) (ps : List (List Nat)) : Prop where
  each : ∀ k, k < vs.length → Own w base (vs.getD k sliceK.dflt).a (vs.getD k sliceK.dflt).n (vs.getD k sliceK.dflt).c (ps.getD k [])
theorem Held.since {w w' : World} {base : Nat} {vs : List SV} {ps : List (List Nat)} (h : Held w base vs ps) (hb : Below w.heap.size w w') : Held w' base vs ps := ⟨fun k hk => (h.each k hk).since hb⟩
theorem Held.elder {w : World} {base base' : Nat} {vs : List SV} {ps : List (List Nat)} (h : Held w base vs ps) (hb : base' ≤ base) : Held w base' vs ps := ⟨fun k hk => (h.each k hk).elder hb⟩
theorem Held.none_ {w : World} {base : Nat} {ps : List (List Nat)} : Held w base [] ps := ⟨fun k hk => absurd hk (Nat.not_lt_zero k)⟩
/-- A row of bytes is no row of slices: it stays where one of these is turned. -/
theorem own_kept_rows {w w' : World} {base base' n c n' c' : Nat} {A A' : Option Addr} {bs : List Nat} {vs : List SV} (h : Own w base A n c bs) (hr : sliceK.Row w base' A' n' c' vs) (hg : w.grownBy w' (Value.slice A' n' c').ownBlock) : Own w' base A n c bs := by
  refine ⟨h.row.kept hg ?_, h.small⟩
  rcases h.row.2 with ⟨hv, _⟩ | ⟨g, cap, cur, hv, _, hh, _⟩
  · left; rw [hv]; rfl
  · right
    rcases hr.row.2 with ⟨hv', _⟩ | ⟨g', cap', cur', hv', _, hh', _⟩
    · rw [hv, hv']; simp [Value.ownBlock]
    · rw [hv, hv']
      intro e
      have e : g = g' := by simpa [Value.ownBlock] using e
      subst e
      rw [hh] at hh'
      have h2 := Option.some.inj hh'
      injection h2 with h3 h4 h5
      exact absurd h4 (by decide)
theorem Held.snoc {w : World} {base : Nat} {vs : List SV} {ps : List (List Nat)} (h : Held w base vs ps) {v : SV} (ho : Own w base v.a v.n v.c (ps.getD vs.length [])) : Held w base (vs ++ [v]) ps := by
  refine ⟨fun k hk => ?_⟩
  rw [List.length_append, List.length_singleton] at hk
  by_cases hkl : k < vs.length
  · have : (vs ++ [v]).getD k sliceK.dflt = vs.getD k sliceK.dflt := by
      rw [List.getD_eq_getElem?_getD, List.getD_eq_getElem?_getD, List.getElem?_append_left hkl]
    rw [this]; exact h.each k hkl
  · obtain rfl : k = vs.length := by omega
    have : (vs ++ [v]).getD vs.length sliceK.dflt = v := by
      rw [List.getD_eq_getElem?_getD, List.getElem?_append_right (Nat.le_refl _)]; simp
    rw [this]; exact ho
theorem Held.kept {w w' : World} {base base' n' c' : Nat} {A' : Option Addr} {us vs : List SV} {ps : List (List Nat)} (h : Held w base vs ps) (hr : sliceK.Row w base' A' n' c' us) (hg : w.grownBy w' (Value.slice A' n' c').ownBlock) : Held w' base vs ps :=
  ⟨fun k hk => own_kept_rows (h.each k hk) hr hg⟩
theorem Held.lays {w : World} {base base' n c : Nat} {A : Option Addr} {vs : List SV} {ps : List (List Nat)} (h : Held w base vs ps) (hr : sliceK.Row w base' A n c vs) (hl : ps.length = n) : Lays w w.heap.size A n vs ps :=
  ⟨hr.lie, ⟨by rw [hl]; exact hr.len, fun k hk => ⟨(h.each k hk).cap, (h.each k hk).bytes⟩⟩⟩
/-- What the document's own Cut leaves. -/
def RefCuts (w : World) : Option (Nat × List (List Nat)) → Ending → World → Prop
  | none, e, w' => e = .returned (.tuple #[.slice none 0 0, .int .i64 2]) ∧ Hid (Below w.heap.size w w')
  | some (s, ps), e, w' => ∃ A c vs, e = .returned (.tuple #[.slice A ps.length c, .int .i64 0]) ∧ ps.length ≤ c ∧ Hid (Lays w' w'.heap.size A ps.length vs ps) ∧ Hid (Below w.heap.size w w')
set_option maxHeartbeats 8000000 in
set_option maxRecDepth 20000 in
theorem refcut_no (x : Int) (st : ByteArray) (A : Option Addr) (n c : Nat) (es : List E) (w : World) (hst : st.size ≤ 1000000) (hn : n ≤ 9223372036854775807) (hA : entK.Lie w w.heap.size A n es)
    (h : ¬((128 ≤ x ∧ x ≤ 256) ∧ mayL st.data.toList = true ∧ mayE es = true)) :
    Calls Try.prog 9 #[.int .i64 x, .string st, .slice A n c] w (RefCuts w none) := by
  have HA := Lib.hid hA
  clear hA
  go_enter Try.func9, Try.ntmps9
  go_wp2_with fail
  refine (refsize_any x _).mono ?_
  by_cases hx : 128 ≤ x ∧ x ≤ 256
  · rw [show sizeB x = true from decide_eq_true hx]
    rintro e w' ⟨rfl, rfl⟩
    have h2 : ¬(mayL st.data.toList = true ∧ mayE es = true) := fun k => h ⟨hx, k⟩
    clear h hx
    go_wp2_with fail
    refine (refMay_any st hst _).mono ?_
    cases hl : mayL st.data.toList
    · rintro e W1 ⟨rfl, hb⟩
      go_wp2_with fail
      go_ret2
      exact ⟨rfl, hb⟩
    · rintro e W1 ⟨rfl, hb⟩
      have hm : mayE es = false := by
        cases hm : mayE es
        · rfl
        · exact absurd ⟨hl, hm⟩ h2
      have HB := Lib.hid hb
      have HA1 := Lib.hid (HA.out.since hb)
      clear h2 hb hl
      go_wp2_with fail
      refine (refmay_any A n c es _ hn HA1.out).mono ?_
      rw [hm]
      rintro e W2 ⟨rfl, hb2⟩
      have S2 := Lib.hid (below_chain HB.out hb2.out)
      go_wp2_with fail
      go_ret2
      exact ⟨rfl, S2⟩
  · rw [show sizeB x = false from decide_eq_false hx]
    rintro e w' ⟨rfl, rfl⟩
    clear h hx
    go_wp2_with fail
    go_ret2
    exact ⟨rfl, Below.refl _ _⟩
set_option maxHeartbeats 16000000 in
set_option maxRecDepth 20000 in
theorem refcut_yes (s : Nat) (nm : List Nat) (A : Option Addr) (n c : Nat) (ns : List Sg.E) (w : World) (hs : Sg.sizeOk s) (hnm : OkN nm) (hok : Sg.Ok ns) (hc : n ≤ c) (hA : entK.Lie w w.heap.size A n (ns.map ofE)) :
    Calls Try.prog 9 #[.int .i64 (s : Int), .string (strOf nm), .slice A n c] w (RefCuts w (some (s, Sg.cut s nm ns))) := by
  have HA := Lib.hid hA
  have HL : Hid (ns.length = n) := by have := hA.len; rw [List.length_map] at this; exact this
  have hn : n ≤ 256 := by rw [← HL.out]; exact hok.many
  have HNM := Lib.hid hnm
  have HOK := Lib.hid hok
  have HS := Lib.hid hs
  obtain ⟨P, HP⟩ : ∃ P, Hid (Sg.parts s n = P) := ⟨_, rfl⟩
  have hP : P ≤ 257 := by rw [← HP.out]; exact Sg.parts_few hs hn
  obtain ⟨q, HQ⟩ : ∃ q, Hid (Sg.each s = q) := ⟨_, rfl⟩
  have hq : 5 ≤ q ∧ q ≤ 14 := by rw [← HQ.out]; exact ⟨(Sg.each_bd hs).1, (Sg.each_bd hs).2.1⟩
  obtain ⟨hq5, hq14⟩ := hq
  obtain ⟨ps, HPS⟩ : ∃ ps, Hid (Sg.cut s nm ns = ps) := ⟨_, rfl⟩
  have HPL : Hid (ps.length = P) := by rw [← HPS.out, ← HP.out, ← HL.out]; exact Sg.cut_len s nm ns
  have hst : (strOf nm).size ≤ 36 := by rw [strOf_size]; exact hnm.len
  obtain ⟨st, HST⟩ : ∃ st, Hid (st = strOf nm) := ⟨_, rfl⟩
  have hml : mayL st.data.toList = true := by rw [HST.out, strOf_data]; exact hnm.may
  rw [← HST.out] at hst ⊢
  rw [HPS.out]
  have HCE := Lib.hid fun W : World => refeach_any (s : Int) W
  rw [eachI_nat hs, HQ.out] at HCE
  have HCP := Lib.hid fun W : World => refparts_any (s : Int) (n : Int) W (by omega)
  rw [partsI_nat hs, HP.out] at HCP
  have HCS := Lib.hid (refsize_any (s : Int) w)
  obtain ⟨hs0, hs1⟩ := hs
  rw [show sizeB (s : Int) = true from decide_eq_true (by omega)] at HCS
  clear hA hok hnm
  go_enter Try.func9, Try.ntmps9
  go_wp2_with fail
  refine HCS.out.mono ?_
  rintro e w' ⟨rfl, rfl⟩
  go_wp2_with fail
  refine (refMay_any st (by omega) _).mono ?_
  rw [hml]
  rintro e W1 ⟨rfl, hb⟩
  have S1 := Lib.hid hb
  have HA1 := Lib.hid (HA.out.since hb)
  clear hb hml
  go_wp2_with fail
  refine (refmay_any A n c _ _ (by omega) HA1.out).mono ?_
  rw [ok_mayE HOK.out]
  rintro e W2 ⟨rfl, hb2⟩
  have S2 := Lib.hid (below_chain S1.out hb2.out)
  clear hb2 HA1 S1
  go_wp2_with fail
  refine (HCP.out _).mono ?_
  rintro e w' ⟨rfl, rfl⟩
  go_wp2_with fail
  refine (HCE.out _).mono ?_
  rintro e w' ⟨rfl, rfl⟩
  go_wp2_with fail
  go_loopw [8, 11] (fun t8 t11 wr => ∃ (k : Nat) (A8 : Option Addr) (c8 : Nat) (vs : List SV), t11 = .int .i64 k ∧ k ≤ P ∧ t8 = .slice A8 k c8 ∧ Hid (sliceK.Row wr w.heap.size A8 k c8 vs) ∧ Hid (Held wr w.heap.size vs ps) ∧ Hid (Below w.heap.size w wr)) (fun _ t11 _ => P - (intOf t11).toNat)
  case atStart => exact ⟨0, none, 0, [], rfl, Nat.zero_le _, rfl, Kind.Row.none_, Held.none_, S2⟩
  case round =>
    obtain ⟨k, A8, c8, vs, rfl, hk, rfl, HR, HH, HB⟩ := hrel
    by_cases hlt : k < P
    · obtain ⟨f0, f1, f2⟩ := chunk_bounds (n := n) HS.out (by rw [HP.out]; exact hlt)
      have hch := chunk_mid (s := s) (k := k) ns
      have hpt : ps.getD k [] = Sg.part s k P nm (Sg.chunk s ns k) := by
        rw [← HPS.out, cut_getD (by rw [HL.out, HP.out]; exact hlt), HL.out, HP.out]
      have hcf := Sg.chunk_few s ns k
      rw [HQ.out] at f0 f1 f2 hch hcf
      rw [HL.out] at hch
      obtain ⟨T, HT⟩ : ∃ T, Hid (T = min (k * q + q) n) := ⟨_, rfl⟩
      rw [← HT.out] at f1 f2 hch
      have hmin : ∀ ts ty w, (Builtin.min_ ts ty #[.int .i64 (n : Int), .int .i64 (((k : Int) + 1) * (q : Int))]).run Try.prog w = .ok (.int .i64 (T : Int)) w := fun ts ty w => min_at ts ty _ _ _ (by
        have e : (((k : Int) + 1) * (q : Int)) = ((k * q + q : Nat) : Int) := by rw [Int.add_mul]; simp
        rw [e, HT.out]
        omega) w
      have hsl : ∀ W : World, (Instr.slice 22 (.slice A n c) (some (.int .i64 ((k : Int) * (q : Int)))) (some (.int .i64 (T : Int))) none).run Try.prog W = .ok (.slice (if c = k * q then A else A.map (·.add (k * q * 4))) (T - k * q) (c - k * q)) W := fun W => by
        have := entK.slice_mid A n c (k * q) T f1 (by omega) W
        rwa [show (((k * q : Nat)) : Int) = (k : Int) * (q : Int) by simp] at this
      obtain ⟨A5, HA5⟩ : ∃ A5 : Option Addr, Hid (A5 = if c = k * q then A else A.map (·.add (k * q * 4))) := ⟨_, rfl⟩
      rw [← HA5.out] at hsl
      have HAM : Hid (entK.Lie wr wr.heap.size A5 (T - k * q) ((Sg.chunk s ns k).map ofE)) := by
        rw [HA5.out, ← hch, List.map_take, List.map_drop]
        exact (HA.out.since HB.out).mid f1 f2 hc
      have HPT := Lib.hid hpt
      have g0 : 0 ≤ (k : Int) * (q : Int) := by
        have e : ((k : Int) * (q : Int)) = ((k * q : Nat) : Int) := by simp
        omega
      have g1 : (k : Int) * (q : Int) ≤ 256 := by
        have e : ((k : Int) * (q : Int)) = ((k * q : Nat) : Int) := by simp
        omega
      have g2 : 0 ≤ ((k : Int) + 1) * (q : Int) := by rw [Int.add_mul]; omega
      have g3 : ((k : Int) + 1) * (q : Int) ≤ 300 := by rw [Int.add_mul]; omega
      obtain ⟨D, HD⟩ : ∃ D, Hid (D = T - k * q) := ⟨_, rfl⟩
      obtain ⟨c5, HC5⟩ : ∃ c5, Hid (c5 = c - k * q) := ⟨_, rfl⟩
      rw [← HD.out, ← HC5.out] at hsl
      rw [← HD.out] at HAM
      have HCF := Lib.hid hcf
      have HCK : Hid (∀ e ∈ Sg.chunk s ns k, Sg.OkE e) := (HOK.out.sub (Sg.chunk_sub s ns k)).each
      have i0 : (0 : Int) ≤ (k : Int) := by omega
      have i1 : (k : Int) < (P : Int) := by omega
      clear f0 f1 f2 hch hpt hcf
      have cL := refpart_any s k P nm (Sg.chunk s ns k) A5 D c5 wr HS.out (by omega) (by omega) HNM.out (by rw [HQ.out]; exact HCF.out) HCK.out HAM.out
      rw [← HST.out, ← HPT.out] at cL
      have HCL := Lib.hid cL
      have HPN : Hid ((ps.getD k []).length = s) := by
        show _ = _
        rw [HPT.out]
        exact Sg.part_len HS.out HNM.out.len (by rw [HQ.out]; exact HCF.out)
      clear cL
      go_wp2_with fail
      refine HCL.out.mono ?_
      rintro e W5 ⟨A6, n6, c6, rfl, ho6, hb6⟩
      obtain rfl : s = n6 := by rw [← ho6.len]; exact HPN.out.symm
      have R5 := Lib.hid (HR.out.since hb6)
      have H5 := Lib.hid (HH.out.since hb6)
      have S5 := Lib.hid (below_chain HB.out hb6)
      have O5 := Lib.hid (ho6.elder HB.out.size)
      obtain ⟨A9, c9, W9, hr9, hrow9, hg9⟩ := Kind.append_one_b (K := sliceK) S5.out.size R5.out (⟨A6, s, c6⟩ : SV) trivial #[.slice A6 s c6] rfl (by omega)
      have HVL : Hid (vs.length = k) := R5.out.len
      have H9 : Hid (Held W9 w.heap.size (vs ++ [⟨A6, s, c6⟩]) ps) := (H5.out.kept R5.out hg9).snoc (own_kept_rows (by rw [HVL.out]; exact O5.out) R5.out hg9)
      have S9 : Hid (Below w.heap.size w W9) := S5.out.grown hg9 S5.out.size (fun b hb => (R5.out.row.lt b hb).1)
      have R9 := Lib.hid hr9
      have Q9 := Lib.hid hrow9
      clear hr9 hrow9 hg9 ho6 hb6 HVL
      go_wp2_with (at_builtin; refine wpList_append_run rfl (.tmp 36) (.tmp 54) 24 rfl rfl rfl R9.out ?_)
      go_roundw
      case rel => exact ⟨k + 1, A9, c9, _, by go_num, by omega, rfl, Q9, H9, S9⟩
      case measure => simp [intOf]; omega
    · obtain rfl : k = P := by omega
      have hcap := HR.out.cap
      have HLY := Lib.hid (HH.out.lays HR.out HPL.out)
      go_wp2_with fail
      go_ret2
      have hp := HPL.out
      subst hp
      exact ⟨A8, c8, vs, rfl, hcap, HLY, HB⟩
theorem refcut_any (x : Int) (st : ByteArray) (A : Option Addr) (n c : Nat) (es : List E) (w : World) (hst : st.size ≤ 1000000) (hn : n ≤ 9223372036854775807) (hc : n ≤ c) (hA : entK.Lie w w.heap.size A n es) :
    Calls Try.prog 9 #[.int .i64 x, .string st, .slice A n c] w (RefCuts w (cutO x st es)) := by
  by_cases h : (128 ≤ x ∧ x ≤ 256) ∧ mayL st.data.toList = true ∧ mayE es = true
  · rw [cutO_yes h]
    obtain ⟨⟨h0, h1⟩, h2, h3⟩ := h
    obtain ⟨s, rfl⟩ := Int.eq_ofNat_of_zero_le (show 0 ≤ x by omega)
    obtain ⟨e1, e2⟩ := mayE_ok h3 hA.all
    have hN : OkN (natsOf st) := ⟨natsOf_lt st, by rw [← strOf_data, strOf_nats]; exact h2⟩
    have := refcut_yes s (natsOf st) A n c (es.map toE) w ⟨by omega, by omega⟩ hN e2 hc (by rw [← e1]; exact hA)
    rw [strOf_nats] at this
    rw [Int.toNat_natCast]
    exact this
  · rw [cutO_no h]
    exact refcut_no x st A n c es w hst hn hA h
end Go.Proofs.Ytopfdeihjjikiaa
