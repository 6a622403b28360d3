/- The landed disk: Write. Conditions: the disk's cells; fewer than 1000 writes wait. -/
import Derived.Test.YtfhfjfgajbgdcaaDiskSettle
import Derived.Test.YtfhfjfgajbgdcaaJoint
set_option linter.unusedVariables false
set_option linter.unusedSimpArgs false
namespace Go.Proofs.Ytfhfjfgajbgdcaa
open Go.RowKit

theorem lastW_more (x y : Int) (W : List (Int × List Nat)) (b : List Nat) : lastW x (W ++ [(y, b)]) = if y = x then some b else lastW x W := by
  unfold lastW
  rw [List.filter_append]
  by_cases h : y = x
  · simp [h]
  · simp [h]
theorem lastOf_snoc {s : RD} {k j : Nat} {bs : List Nat} : lastOf { s with W := s.W ++ [((k : Int), bs)] } j = if j = k then bs else lastOf s j := by
  unfold lastOf
  dsimp only
  rw [lastW_more]
  by_cases h : j = k
  · subst h; simp
  · rw [if_neg (by omega), if_neg h]
theorem run_d_field2 (g : Nat) (w : World) : (Instr.fieldAt 61 (.pointer (some ⟨g, 0, none⟩)) 2).run Try.prog w = .ok (.pointer (some ⟨g, 2, none⟩)) w := by go_simp
theorem run_s_field1 (p : Addr) (w : World) : (Instr.fieldAt 63 (.pointer (some p)) 1).run Try.prog w = .ok (.pointer (some ⟨p.block, p.off + 1, none⟩)) w := by
  go_simp
theorem run_w_load (p : Addr) (A : Option Addr) (n c : Nat) (w : World) (hc : w.cell? p = some (.slice A n c)) : (Instr.loadAt 59 (.pointer (some p))).run Try.prog w = .ok (.slice A n c) w := by go_simp
theorem run_b_load (p : Addr) (A : Option Addr) (n c : Nat) (w : World) (hc : w.cell? p = some (.slice A n c)) : (Instr.loadAt 34 (.pointer (some p))).run Try.prog w = .ok (.slice A n c) w := by go_simp
theorem run_w_store (p : Addr) (v u : Value) (A : Option Addr) (n c : Nat) (hv : v = .slice A n c) (w : World) (hc : w.cell? p = some u) (hf : w.frozen? p = false) : (Instr.storeAt 59 (.pointer (some p)) v).run Try.prog w = .ok () (w.setCell p v) := by
  subst hv
  go_simp
theorem run_build_w (x : Int) (A : Option Addr) (n c : Nat) (W : World) : (Instr.build 74 #[(0, .int .i64 x), (1, .slice A n c)]).run Try.prog W = .ok (.agg #[.int .i64 x, .slice A n c]) W := by go_simp
theorem run_build_w1 (x : Int) (A : Option Addr) (n c : Nat) (W : World) : (Instr.buildSlice 59 1 #[(0, .agg #[.int .i64 x, .slice A n c])]).run Try.prog W = .ok (.slice (some ⟨W.heap.size, 0, none⟩) 1 1) (W.alloc (.cells #[.int .i64 x, .slice A n c] 74)) := by go_simp
/-- One write made, in a new row. -/
def OneW (x : Int) (sv : SV) (v : Value) (W : World) : Prop := ∃ b, v = .slice (some ⟨b, 0, none⟩) 1 1 ∧ wrtK.Lie W W.heap.size (some ⟨b, 0, none⟩) 1 [(⟨x, sv⟩ : WV)]
theorem oneW_since (x : Int) (sv : SV) (v : Value) (w w' : World) (h : OneW x sv v w) (hb : Later w w') : OneW x sv v w' := by
  obtain ⟨b, e, h1⟩ := h
  exact ⟨b, e, h1.since hb⟩
structure AppW (WD : World) (base g z : Nat) (F La : List (List Nat)) (B : List Bool) (L : DL) (Wl : List (Int × List Nat)) (k : Nat) (sv : SV) (bs : List Nat) (A2 : Option Addr) (c2 : Nat) (W : World) : Prop where
  core : DCore W base g z F La B L Wl.length
  wait : DWait W base F.length (Wl ++ [((k : Int), bs)]) A2 c2 (L.vW ++ [⟨(k : Int), sv⟩])
  where_ : ∀ b ∈ blk A2, b ∈ blk L.AW ∨ WD.heap.size ≤ b
  turn : Turn (fun b => b ∈ blk L.AW) WD W
def AppV (WD : World) (base g z : Nat) (F La : List (List Nat)) (B : List Bool) (L : DL) (Wl : List (Int × List Nat)) (k : Nat) (sv : SV) (bs : List Nat) (v : Value) (W : World) : Prop := ∃ A2 c2, v = .slice A2 (Wl.length + 1) c2 ∧ AppW WD base g z F La B L Wl k sv bs A2 c2 W
theorem appV_since (WD : World) (base g z : Nat) (F La : List (List Nat)) (B : List Bool) (L : DL) (Wl : List (Int × List Nat)) (k : Nat) (sv : SV) (bs : List Nat) (v : Value) (w w' : World) (h : AppV WD base g z F La B L Wl k sv bs v w) (hb : Later w w') : AppV WD base g z F La B L Wl k sv bs v w' := by
  obtain ⟨A2, c2, e, h1⟩ := h
  exact ⟨A2, c2, e, h1.core.since hb, h1.wait.since hb, h1.where_, h1.turn.trans (Turn.of_below (fp := fun _ => False) hb) fun b hb => hb.elim⟩
structure EndW (WD : World) (base g z : Nat) (F La : List (List Nat)) (B : List Bool) (L : DL) (Wl : List (Int × List Nat)) (k : Nat) (sv : SV) (bs : List Nat) (A2 : Option Addr) (c2 : Nat) (W : World) : Prop where
  core : DCore W base g z F La B { L with AW := A2, cW := c2, vW := L.vW ++ [⟨(k : Int), sv⟩] } (Wl.length + 1)
  wait : DWait W base F.length (Wl ++ [((k : Int), bs)]) A2 c2 (L.vW ++ [⟨(k : Int), sv⟩])
  where_ : ∀ b ∈ blk A2, b ∈ blk L.AW ∨ WD.heap.size ≤ b
  turn : Turn (fun b => b = g ∨ b ∈ blk L.AW) WD W
def EndV (WD : World) (base g z : Nat) (F La : List (List Nat)) (B : List Bool) (L : DL) (Wl : List (Int × List Nat)) (k : Nat) (sv : SV) (bs : List Nat) (v : Value) (W : World) : Prop := ∃ A2 c2, EndW WD base g z F La B L Wl k sv bs A2 c2 W
theorem endV_since (WD : World) (base g z : Nat) (F La : List (List Nat)) (B : List Bool) (L : DL) (Wl : List (Int × List Nat)) (k : Nat) (sv : SV) (bs : List Nat) (v : Value) (w w' : World) (h : EndV WD base g z F La B L Wl k sv bs v w) (hb : Later w w') : EndV WD base g z F La B L Wl k sv bs v w' := by
  obtain ⟨A2, c2, h1⟩ := h
  exact ⟨A2, c2, h1.core.since hb, h1.wait.since hb, h1.where_, h1.turn.trans (Turn.of_below (fp := fun _ => False) hb) fun b hb => hb.elim⟩
section
variable {WD W : World} {base g z : Nat} {F La : List (List Nat)} {B : List Bool} {L : DL} {Wl : List (Int × List Nat)} {k : Nat} {sv : SV} {bs : List Nat}
theorem blk_own {A : Option Addr} {n c b : Nat} : (Value.slice A n c).ownBlock = some b ↔ b ∈ blk A := by
  cases A with
  | none => simp [Value.ownBlock, blk]
  | some a => simp [Value.ownBlock, blk, eq_comm]
/-- append(d.waiting, ..) -/
theorem appW_new (hC : DCore W base g z F La B L Wl.length) (hT : DWait W base F.length Wl L.AW L.cW L.vW) (hO : Own W base sv.a sv.n sv.c bs) (hz : bs.length ≤ 256) (hk : k < F.length) (hm : Wl.length < 1000) (hL : Later WD W) {b : Nat} (h1 : wrtK.Lie W W.heap.size (some ⟨b, 0, none⟩) 1 [(⟨(k : Int), sv⟩ : WV)]) :
    ∃ A2 c2 W2, (Builtin.append_ #[59, 59] 59 #[.slice L.AW Wl.length L.cW, .slice (some ⟨b, 0, none⟩) 1 1]).run Try.prog W = .ok (.slice A2 (Wl.length + 1) c2) W2 ∧ AppV WD base g z F La B L Wl k sv bs (.slice A2 (Wl.length + 1) c2) W2 := by
  have hbase : base ≤ W.heap.size := Nat.le_of_lt (Nat.lt_of_le_of_lt hC.base_le hC.glt)
  obtain ⟨A2, c2, W2, hr, ho, hg⟩ := Kind.append_b (K := wrtK) (c' := 1) hbase hT.wr h1 (by omega)
  have hat := Kind.append_at hT.wr h1 (by omega) hr
  have hK : KeepN W W2 74 := keepN_grown hT.wr hg
  exact ⟨A2, c2, W2, hr, A2, c2, rfl, hC.keepN hK (by decide) (by decide) (by decide), hT.snoc hK ho (hO.keepN hK (by decide)) hz hk hm,
    fun x hx => (hat x (blk_own.2 hx)).imp (fun h => blk_own.1 h) fun h => Nat.le_trans hL.size h, (Turn.of_below (fp := fun b => b ∈ blk L.AW) hL).trans (Turn.of_grown hg fun x hx => blk_own.1 hx) fun x hx => Or.inl hx⟩
/-- d.waiting = .. -/
theorem appW_put {A2 : Option Addr} {c2 : Nat} (h : AppW WD base g z F La B L Wl k sv bs A2 c2 W) : EndV WD base g z F La B L Wl k sv bs undef (W.setCell ⟨g, 2, none⟩ (.slice A2 (Wl.length + 1) c2)) := by
  have hK : KeepN W (W.setCell ⟨g, 2, none⟩ (.slice A2 (Wl.length + 1) c2)) 61 := keepN_setCell h.core.row
  exact ⟨A2, c2, h.core.putW A2 (Wl.length + 1) c2 _, h.wait.keepN hK (by decide) (by decide), h.where_, (h.turn.mono (fq := fun b => b = g ∨ b ∈ blk L.AW) fun b hb => Or.inl (Or.inr hb)).trans (Turn.of_setCell (fp := fun b => b = g ∨ b ∈ blk L.AW) _ _ (Or.inl rfl)) fun b hb => Or.inl hb⟩
end
/-- What a Write leaves that goes well. -/
def WroteD (w : World) (base g : Nat) (s : RD) (L : DL) (x : Int) (bs : List Nat) (e : Ending) (w' : World) : Prop := e = .returned .nilIface ∧ (∃ L' La', Hid (DRep w' base g { s with W := s.W ++ [(x, bs)] } L' La') ∧ Hid (∀ fp : Nat → Prop, L.In fp → L'.In (fun b => fp b ∨ w.heap.size ≤ b))) ∧ Hid (Turn (fun b => b = g ∨ b = L.ab.block ∨ b ∈ blk L.AW) w w')
section
variable {w : World} {base g : Nat} {fp : Nat → Prop} {s : RD} {L : DL} {La : List (List Nat)}
set_option maxHeartbeats 16000000 in
set_option maxRecDepth 20000 in
theorem dwrite_bad (x : Int) (A2 : Option Addr) (n2 c2 : Nat) (h : DRep w base g s L La) (hf : ∀ b, fp b → b < w.heap.size) (hn : n2 ≤ 9223372036854775807) (hq : writeO s x n2 ≠ 0) :
    Calls Try.prog 20 #[.pointer (some ⟨g, 0, none⟩), .int .i64 x, .slice A2 n2 c2] w fun e w' => ∃ v, e = .returned v ∧ ErrNew w fp w' (writeO s x n2) v ∧ Below w.heap.size w w' := by
  have C1 := Lib.hid (dsize_rep h)
  have hsz := h.size
  have C2 := fun st => Lib.hid (dfind_bad (fp := fp) st x (decide (n2 = s.size)) h hf (by rw [findO_write]; exact hq))
  rw [findO_write] at C2
  obtain ⟨q, HQ⟩ : ∃ q, Hid (writeO s x n2 = q) := ⟨_, rfl⟩
  obtain ⟨z, HZ⟩ : ∃ z, Hid (s.size = z) := ⟨_, rfl⟩
  rw [HZ.out] at C1 C2 hsz
  rw [HQ.out] at hq C2 ⊢
  have HNZ := Lib.hid hq
  obtain ⟨fits, HF⟩ : ∃ b : Bool, Hid (decide (n2 = z) = b) := ⟨_, rfl⟩
  rw [HF.out] at C2
  have hb : ((n2 : Int) == (z : Int)) = fits := by
    rw [← HF.out]
    by_cases e : n2 = z
    · simp [e]
    · have : ¬ (n2 : Int) = (z : Int) := by omega
      simp [e, this]
  clear h hf hq
  go_enter Try.func20, Try.ntmps20
  go_wp2_with fail
  refine C1.out.mono ?_
  rintro e w' ⟨rfl, rfl⟩
  go_wp2_with fail
  refine (C2 _).out.mono ?_
  rintro e W2 ⟨v, rfl, HE, HB⟩
  obtain ⟨xv, rfl⟩ := (HE.wrong HNZ.out).ne
  have HE := Lib.hid HE
  have HB := Lib.hid HB
  go_wp2_with fail
  go_ret
  exact ⟨_, rfl, HE.out, HB.out⟩
set_option maxHeartbeats 16000000 in
set_option maxRecDepth 20000 in
theorem dwrite_ok (k : Nat) (A2 : Option Addr) (n2 c2 : Nat) (bs : List Nat) (h : DRep w base g s L La) (hk : k < s.F.length) (hbr : s.B.getD k false = false) (hn : n2 = s.size) (hA : Bytes w w.heap.size A2 n2 bs) (hm : s.W.length < 1000) :
    Calls Try.prog 20 #[.pointer (some ⟨g, 0, none⟩), .int .i64 (k : Int), .slice A2 n2 c2] w (WroteD w base g s L (k : Int) bs) := by
  have hbl := hA.len
  have hz : s.size ≤ 256 := h.size
  have C1 := Lib.hid (dsize_rep h)
  rw [← hn] at C1 hz
  have C2 := fun st => Lib.hid (dfind_ok st k h hk hbr)
  have C3 := Lib.hid (clone8_any A2 n2 c2 bs w (by omega) hA)
  have hb : ((n2 : Int) == (n2 : Int)) = true := by simp
  have HH := Lib.hid h
  have hbase : base ≤ w.heap.size := Nat.le_of_lt (Nat.lt_of_le_of_lt h.core.base_le h.core.glt)
  obtain ⟨p, HP⟩ : ∃ p, Hid (L.ab.add (k * 3) = p) := ⟨_, rfl⟩
  have C2' := fun st => Lib.hid (HP.out ▸ (C2 st).out)
  clear hA C2 hn
  go_enter Try.func20, Try.ntmps20
  go_wp2_with fail
  refine C1.out.mono ?_
  rintro e w' ⟨rfl, rfl⟩
  go_wp2_with fail
  refine (C2' _).out.mono ?_
  rintro e w' ⟨rfl, rfl⟩
  go_wp2_with fail
  refine C3.out.mono ?_
  rintro e W1 ⟨A4, n4, q4, rfl, HO, HB⟩
  have HO := Lib.hid HO
  have HB := Lib.hid HB
  have e4 : n4 = n2 := by rw [← HO.out.len, hbl]
  subst e4
  have h1 := HH.out.since HB.out
  obtain ⟨v0, v1, v2⟩ := h1.core.sector hk
  have z1 := h1.core.free3 k 1
  have ho1 := HO.out.elder hbase
  have P2 := h1.core.putL hk (v := ⟨A4, n4, q4⟩) ho1 (by omega)
  obtain ⟨cur, hcur⟩ := h1.core.typedS
  have hpl := h1.core.place k
  have hpb : (L.ab.add (k * 3)).block = L.ab.block := by rw [hpl]
  rw [HP.out] at v0 v1 v2 z1 P2 hpb
  dsimp only at P2
  have hKN : KeepN W1 (W1.setCell ⟨p.block, p.off + 1, none⟩ (.slice A4 n4 q4)) 63 := keepN_setCell (by rw [hpb]; exact hcur)
  have T2 := h1.wait.keepN hKN (by decide) (by decide)
  have O2 := ho1.keepN hKN (by decide)
  have U2 : Turn (fun b => b = g ∨ b = L.ab.block ∨ b ∈ blk L.AW) w (W1.setCell ⟨p.block, p.off + 1, none⟩ (.slice A4 n4 q4)) := (Turn.of_below HB.out).trans (Turn.of_setCell (fp := fun b => b = g ∨ b = L.ab.block ∨ b ∈ blk L.AW) _ _ (Or.inr (Or.inl hpb))) fun b hb => Or.inl hb
  obtain ⟨VS, HVS⟩ : ∃ VS, Hid (L.vS.set k { L.sec k with l := ⟨A4, n4, q4⟩ } = VS) := ⟨_, rfl⟩
  rw [HVS.out] at P2
  obtain ⟨b0, b1, b2⟩ := P2.sector hk
  have hsec : DL.sec { L with vS := VS } k = { L.sec k with l := ⟨A4, n4, q4⟩ } := by
    unfold DL.sec
    rw [← HVS.out, getD_setN _ _ _ _ _ (by rw [h1.core.vlen]; exact hk), if_pos rfl]
    rfl
  rw [hsec] at b1
  dsimp only at b1
  rw [HP.out] at b1
  have C2h := Lib.hid P2
  have T2h := Lib.hid T2
  have O2h := Lib.hid O2
  have U2h := Lib.hid U2
  have IN2 : Hid (∀ fp : Nat → Prop, L.In fp → DL.In (fun b => fp b ∨ w.heap.size ≤ b) { L with vS := VS }) := fun fp h => by
    refine ⟨Or.inl h.s, fun v hv b hb => ?_, fun v hv b hb => ?_, fun b hb => Or.inl (h.w b hb), fun v hv b hb => Or.inl (h.vw v hv b hb)⟩
    · rw [← HVS.out] at hv
      rcases List.mem_or_eq_of_mem_set hv with h4 | h4
      · exact Or.inl (h.f v h4 b hb)
      · rw [h4] at hb
        exact Or.inl (h.secf (by rw [h1.core.vlen]; exact hk) b hb)
    · rw [← HVS.out] at hv
      rcases List.mem_or_eq_of_mem_set hv with h4 | h4
      · exact Or.inl (h.l v h4 b hb)
      · rw [h4] at hb
        exact Or.inr (HO.out.blk_ge b hb)
  clear P2 T2 O2 U2 b0 b2 hKN ho1 h1 v0 v2 hpl hpb cur hcur
  go_wp2_with fail
  obtain ⟨W2, HW2⟩ : ∃ W2, Hid (W2 = W1.setCell ⟨p.block, p.off + 1, none⟩ (.slice A4 n4 q4)) := ⟨_, rfl⟩
  rw [← HW2.out] at C2h T2h O2h U2h b1 ⊢
  obtain ⟨L2, HL2⟩ : ∃ L2 : DL, Hid ({ L with vS := VS } = L2) := ⟨_, rfl⟩
  have HAW : Hid (L2.AW = L.AW ∧ L2.cW = L.cW ∧ L2.vW = L.vW) := by rw [← HL2.out]; exact ⟨rfl, rfl, rfl⟩
  rw [HL2.out] at C2h IN2
  rw [← HAW.out.1, ← HAW.out.2.1, ← HAW.out.2.2] at T2h
  have HM := Lib.hid hm
  have HK := Lib.hid hk
  have HBL : Hid (bs.length ≤ 256) := by show _ ≤ _; omega
  obtain ⟨WD, HWD⟩ : ∃ W, Hid (W = W2.drew) := ⟨_, rfl⟩
  have HDL : Hid (Later W2 WD) := by rw [HWD.out]; exact (Below.refl _ _).drew
  have CD := Lib.hid (C2h.out.since HDL.out)
  have TD := Lib.hid (T2h.out.since HDL.out)
  have OD := Lib.hid (O2h.out.since HDL.out)
  have B1 := Lib.hid (later_cell HDL.out b1)
  clear b1 v1 z1 h hsec hbl hk hm C2h T2h O2h
  refine region_of_steps4 (by kernel_rfl) (fact2Of [.is (.pointer (some ⟨g, 0, none⟩)), .is (.pointer (some ⟨g, 0, none⟩)), .is (.pointer (some ⟨g, 0, none⟩)), .is (.pointer (some ⟨g, 2, none⟩)), .is (.slice L2.AW s.W.length L2.cW), .is (.int .i64 (k : Int)), .is (.pointer (some p)), .is (.pointer (some p)), .is (.pointer (some ⟨p.block, p.off + 1, none⟩)), .is (.slice A4 n4 q4), .is (.agg #[.int .i64 (k : Int), .slice A4 n4 q4]), .that (OneW (k : Int) ⟨A4, n4, q4⟩) (oneW_since _ _), .that (AppV WD base g s.size s.F (La.set k bs) s.B L2 s.W k ⟨A4, n4, q4⟩ bs) (appV_since _ _ _ _ _ _ _ _ _ _ _ _), .is (.pointer (some ⟨g, 0, none⟩)), .is (.pointer (some ⟨g, 2, none⟩)), .that (EndV WD base g s.size s.F (La.set k bs) s.B L2 s.W k ⟨A4, n4, q4⟩ bs) (endV_since _ _ _ _ _ _ _ _ _ _ _ _)]) (deadOf [(11, 12), (12, 15)]) (Turns [12, 15]) (TillAll [12, 15] WD) (by kernel_rfl)
    (fun i j v w w' hm hd hn hdd h hR => turns_stays _ _ [12, 15] [(11, 12), (12, 15)] (by kernel_rfl) i j v w w' hm hd hn hdd h hR) (fun listed j w w' h hl k => tillall_step h hl k) (fun listed => by rw [← HWD.out]; exact tillall_start _ _ _) ?_ ?_
  · refine Steps3.cons ?_ (Steps3.cons ?_ (Steps3.cons ?_ (Steps3.cons ?_ (Steps3.cons ?_ (Steps3.cons ?_ (Steps3.cons ?_ (Steps3.cons ?_ (Steps3.cons ?_ (Steps3.cons ?_ (Steps3.cons ?_ (Steps3.cons ?_ (Steps3.cons ?_ (Steps3.cons ?_ (Steps3.cons ?_ (Steps3.cons ?_ (Steps3.nil))))))))))))))))
    · intro listed a W H hw hl hd
      have t0 : a.tmps.getD 0 undef = .pointer (some ⟨g, 0, none⟩) := (H.old 0 (by kernel_rfl)).trans rfl
      exact step2_value (i := 0) rfl rfl (run_op_move rfl t0) (turns_refl _) rfl
    · intro listed a W H hw hl hd
      have t0 : a.tmps.getD 0 undef = .pointer (some ⟨g, 0, none⟩) := (H.old 0 (by kernel_rfl)).trans rfl
      exact step2_value (i := 1) rfl rfl (run_op_move rfl t0) (turns_refl _) rfl
    · intro listed a W H hw hl hd
      have t29 : a.tmps.getD 29 undef = .pointer (some ⟨g, 0, none⟩) := H.get 1 29 (by kernel_rfl) (dep_of hd 1 (by kernel_rfl)) (alive_none (by kernel_rfl))
      exact step2_value (i := 2) rfl rfl (run_op_nilCheck rfl t29) (turns_refl _) rfl
    · intro listed a W H hw hl hd
      have t30 : a.tmps.getD 30 undef = .pointer (some ⟨g, 0, none⟩) := H.get 2 30 (by kernel_rfl) (dep_of hd 2 (by kernel_rfl)) (alive_none (by kernel_rfl))
      exact step2_value (i := 3) rfl rfl (run_op_fieldAddr rfl t30 (run_d_field2 g W)) (turns_refl _) rfl
    · intro listed a W H hw hl hd
      have t31 : a.tmps.getD 31 undef = .pointer (some ⟨g, 2, none⟩) := H.get 3 31 (by kernel_rfl) (dep_of hd 3 (by kernel_rfl)) (alive_none (by kernel_rfl))
      exact step2_value (i := 4) rfl rfl (run_op_load rfl t31 (run_w_load _ L2.AW s.W.length L2.cW W (CD.out.since (hw (H.nothing 5 hl (by kernel_rfl)))).c2)) (turns_refl _) rfl
    · intro listed a W H hw hl hd
      have t1 : a.tmps.getD 1 undef = .int .i64 (k : Int) := (H.old 1 (by kernel_rfl)).trans rfl
      exact step2_value (i := 5) rfl rfl (run_op_move rfl t1) (turns_refl _) rfl
    · intro listed a W H hw hl hd
      have t7 : a.tmps.getD 7 undef = .pointer (some p) := (H.old 7 (by kernel_rfl)).trans rfl
      exact step2_value (i := 6) rfl rfl (run_op_move rfl t7) (turns_refl _) rfl
    · intro listed a W H hw hl hd
      have t34 : a.tmps.getD 34 undef = .pointer (some p) := H.get 6 34 (by kernel_rfl) (dep_of hd 6 (by kernel_rfl)) (alive_none (by kernel_rfl))
      exact step2_value (i := 7) rfl rfl (run_op_nilCheck rfl t34) (turns_refl _) rfl
    · intro listed a W H hw hl hd
      have t35 : a.tmps.getD 35 undef = .pointer (some p) := H.get 7 35 (by kernel_rfl) (dep_of hd 7 (by kernel_rfl)) (alive_none (by kernel_rfl))
      exact step2_value (i := 8) rfl rfl (run_op_fieldAddr rfl t35 (run_s_field1 p W)) (turns_refl _) rfl
    · intro listed a W H hw hl hd
      have t36 : a.tmps.getD 36 undef = .pointer (some ⟨p.block, p.off + 1, none⟩) := H.get 8 36 (by kernel_rfl) (dep_of hd 8 (by kernel_rfl)) (alive_none (by kernel_rfl))
      exact step2_value (i := 9) rfl rfl (run_op_load rfl t36 (run_b_load _ A4 n4 q4 W (later_cell (hw (H.nothing 5 hl (by kernel_rfl))) B1.out))) (turns_refl _) rfl
    · intro listed a W H hw hl hd
      have t33 : a.tmps.getD 33 undef = .int .i64 (k : Int) := H.get 5 33 (by kernel_rfl) (dep_of hd 5 (by kernel_rfl)) (alive_none (by kernel_rfl))
      have t37 : a.tmps.getD 37 undef = .slice A4 n4 q4 := H.get 9 37 (by kernel_rfl) (dep_of hd 9 (by kernel_rfl)) (alive_none (by kernel_rfl))
      exact step2_value (i := 10) rfl rfl (run_op_buildS rfl (by simp only [List.map_toArray, List.map_cons, List.map_nil]; show (Instr.build 74 #[(0, a.tmps.getD 33 undef), (1, a.tmps.getD 37 undef)]).run _ _ = _; rw [t33, t37]; exact run_build_w _ _ _ _ _)) (turns_refl _) rfl
    · intro listed a W H hw hl hd
      have t38 : a.tmps.getD 38 undef = .agg #[.int .i64 (k : Int), .slice A4 n4 q4] := H.get 10 38 (by kernel_rfl) (dep_of hd 10 (by kernel_rfl)) (alive_none (by kernel_rfl))
      exact step2_value (i := 11) rfl rfl (run_op_build1 rfl t38 (run_build_w1 (k : Int) A4 n4 q4 W)) (turns_later (later_alloc _ _)) ⟨W.heap.size, rfl, Kind.new1 (K := wrtK) W ⟨(k : Int), ⟨A4, n4, q4⟩⟩ trivial _ rfl⟩
    · intro listed a W H hw hl hd
      have t32 : a.tmps.getD 32 undef = .slice L2.AW s.W.length L2.cW := H.get 4 32 (by kernel_rfl) (dep_of hd 4 (by kernel_rfl)) (alive_none (by kernel_rfl))
      have T39 : (OneW (k : Int) ⟨A4, n4, q4⟩) (a.tmps.getD 39 undef) W := H.get 11 39 (by kernel_rfl) (dep_of hd 11 (by kernel_rfl)) (alive_now (m := 12) (by kernel_rfl) (H.notyets 4 hl (by kernel_rfl)))
      obtain ⟨b39, e39, h39⟩ := T39
      have hlt := (hw (H.nothing 5 hl (by kernel_rfl)))
      obtain ⟨A9, c9, W9, hr, ha⟩ := appW_new (WD := WD) (CD.out.since hlt) (TD.out.since hlt) (OD.out.since hlt) HBL.out HK.out HM.out hlt h39
      exact step2_value (i := 12) rfl rfl (run_op_append rfl t32 e39 hr) (turns_here (by decide)) ha
    · intro listed a W H hw hl hd
      have t28 : a.tmps.getD 28 undef = .pointer (some ⟨g, 0, none⟩) := H.get 0 28 (by kernel_rfl) (dep_of hd 0 (by kernel_rfl)) (alive_none (by kernel_rfl))
      exact step2_value (i := 13) rfl rfl (run_op_nilCheck rfl t28) (turns_refl _) rfl
    · intro listed a W H hw hl hd
      have t41 : a.tmps.getD 41 undef = .pointer (some ⟨g, 0, none⟩) := H.get 13 41 (by kernel_rfl) (dep_of hd 13 (by kernel_rfl)) (alive_none (by kernel_rfl))
      exact step2_value (i := 14) rfl rfl (run_op_fieldAddr rfl t41 (run_d_field2 g W)) (turns_refl _) rfl
    · intro listed a W H hw hl hd
      have t42 : a.tmps.getD 42 undef = .pointer (some ⟨g, 2, none⟩) := H.get 14 42 (by kernel_rfl) (dep_of hd 14 (by kernel_rfl)) (alive_none (by kernel_rfl))
      have T40 : (AppV WD base g s.size s.F (La.set k bs) s.B L2 s.W k ⟨A4, n4, q4⟩ bs) (a.tmps.getD 40 undef) W := H.get 12 40 (by kernel_rfl) (dep_of hd 12 (by kernel_rfl)) (alive_now (m := 15) (by kernel_rfl) (H.notyets 4 hl (by kernel_rfl)))
      obtain ⟨A9, c9, e40, h40⟩ := T40
      exact step2_done (i := 15) rfl rfl rfl (run_op_store rfl t42 e40 (run_w_store _ _ _ A9 (s.W.length + 1) c9 rfl W h40.core.c2 (h40.core.free 2))) (turns_here (by decide)) (appW_put h40)

  · intro a WC listed hdef hsz hw hall hact
    obtain ⟨A9, c9, hX⟩ := hall 15 _ rfl (by kernel_rfl)
    obtain ⟨u, hu⟩ : ∃ u : Nat → Value, ∀ k, a.tmps.getD k undef = u k := ⟨_, fun _ => rfl⟩
    simp only [hu] at hact
    have hact' : a = ([28, 29, 30, 31, 32, 33, 34, 35, 36, 37, 38, 39, 40, 41, 42] : List Nat).foldl (fun b k => b.put (some k) (u k)) _ := hact
    simp only [List.foldl] at hact'
    simp only [Act.put, List.setIfInBounds_toArray, List.set_cons_succ, List.set_cons_zero] at hact'
    have HAC := Lib.hid hact'
    have HX := Lib.hid hX
    clear hu hact hact' hall hdef hsz hw hX
    rw [HAC.out]
    go_wp2_with fail
    go_ret
    have hlen : (s.W ++ [((k : Int), bs)]).length = s.W.length + 1 := by rw [List.length_append, List.length_singleton]
    refine ⟨rfl, ⟨{ L2 with AW := A9, cW := c9, vW := L2.vW ++ [⟨(k : Int), ⟨A4, n4, q4⟩⟩] }, La.set k bs, ⟨?_, HX.out.wait, fun j hj => ?_, HH.out.size⟩, fun fp hi => ?_⟩, ?_⟩
    · show DCore _ base g s.size s.F _ s.B _ (s.W ++ [((k : Int), bs)]).length
      rw [hlen]; exact HX.out.core
    · rw [lastOf_snoc, getD_setN _ _ _ _ _ (by rw [HH.out.core.lenL]; exact HK.out)]
      by_cases e : j = k
      · rw [if_pos e, if_pos e]
      · rw [if_neg e, if_neg e]; exact HH.out.last j hj
    · have h2 := IN2.out fp hi
      have hle : w.heap.size ≤ WD.heap.size := Nat.le_trans U2h.out.size HDL.out.size
      refine ⟨h2.s, h2.f, h2.l, fun b hb => ?_, fun v hv b hb => ?_⟩
      · rcases HX.out.where_ b hb with h3 | h3
        · exact h2.w b h3
        · exact Or.inr (Nat.le_trans hle h3)
      · rcases List.mem_append.1 hv with hv | hv
        · exact h2.vw v hv b hb
        · rw [List.mem_singleton.1 hv] at hb
          exact Or.inr (HO.out.blk_ge b hb)
    · have h3 := HX.out.turn
      rw [HAW.out.1] at h3
      exact (U2h.out.trans (Turn.of_below (fp := fun _ => False) HDL.out) fun b hb => hb.elim).trans h3 fun b hb => Or.inl (hb.imp id Or.inr)
end
end Go.Proofs.Ytfhfjfgajbgdcaa
