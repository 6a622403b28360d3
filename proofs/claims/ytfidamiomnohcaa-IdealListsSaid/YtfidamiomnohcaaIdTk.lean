/- The landed ideal's Can, and Take of whatever is no list. Conditions: an ideal that stands so, an order and a reply whose data lie there; lists of at most 400, at most 900 addresses. The landed ideal's Take of whatever is no list. Conditions: an ideal that stands so, an order and a reply whose data lie there; lists of at most 400, at most 900 addresses. -/
import Derived.Test.YtfidamiomnohcaaIdSmall
set_option linter.unusedVariables false
set_option linter.unusedSimpArgs false
set_option maxRecDepth 20000
namespace Go.Proofs.Ytfidamiomnohcaa
section
open Go.RowKit

/- lists that may stand, as mathematics -/
structure LPre (l : List Th) : Prop where
  srt : Srt l
  ok : ∀ t ∈ l, ThOk t
  no : ∀ t ∈ l, t.k = 1 → Th.zero ∈ l
theorem LPre.nil : LPre [] := ⟨srt_nil, fun t ht => (by cases ht), fun t ht => (by cases ht)⟩
theorem LOk.pre {l : List Th} (h : LOk l) : LPre l := ⟨h.srt, h.ok, h.no⟩
theorem LPre.with {l more : List Th} (h : LPre l) (hm : ∀ t ∈ more, ThOk t) : LPre (withT l more) :=
  ⟨srt_with h.srt, ok_with h.ok hm, fun t ht e => by
    rcases mem_with.1 ht with ht | ht | ⟨rfl, _⟩
    · exact mem_with.2 (Or.inl (h.no t ht e))
    · exact mem_with.2 (Or.inr (Or.inr ⟨rfl, t, ht, e⟩))
    · exact absurd e (by decide)⟩
theorem with_ne {l more : List Th} (h : more ≠ []) : withT l more ≠ [] := by
  cases more with
  | nil => exact absurd rfl h
  | cons t r =>
    intro e
    have : t ∈ withT l (t :: r) := mem_with.2 (Or.inr (Or.inl List.mem_cons_self))
    rw [e] at this; cases this
theorem LPre.lok {l : List Th} (h : LPre l) (hn : l ≠ []) : LOk l := ⟨h.srt, hn, h.ok, h.no⟩
theorem lok_with {l more : List Th} (h : LPre l) (hm : ∀ t ∈ more, ThOk t) (hn : more ≠ []) : LOk (withT l more) := (h.with hm).lok (with_ne hn)
theorem lok_cleaned {l : List Th} (h : LOk l) : LOk (cleanedT l) := lok_with LPre.nil (fun t ht => by
  obtain ⟨u, hu, rfl⟩ := List.mem_map.1 ht
  exact ok_clean (h.ok u hu)) (by simpa using h.ne)
theorem lok_made {k : Int} {bs : List Nat} {was : List Th} (h : LOk was) : LOk (madeT k bs was) := by
  unfold madeT
  split
  · exact lok_with LPre.nil (fun t ht => by rw [List.mem_singleton.1 ht]; exact ok_blk (by decide) (by decide) _) (by simp)
  · split
    · exact lok_with LPre.nil (fun t ht => by rw [List.mem_singleton.1 ht]; exact ok_blk (by decide) (by decide) _) (by simp)
    · split
      · exact lok_zero
      · split
        · exact lok_cleaned h
        · exact h
theorem lok_refusal {k : Int} {bs : List Nat} {was : List Th} {code : Int} (h : LOk was) : (refusalT k bs was code).2 = true → LOk (refusalT k bs was code).1 := by
  unfold refusalT
  split
  · exact fun _ => lok_with h.pre (lok_made h).ok (lok_made h).ne
  · split
    · exact fun _ => lok_zero
    · split
      · exact fun _ => h
      · split
        · exact fun _ => h
        · split
          · exact fun _ => h
          · exact fun e => by cases e
theorem lok_behind {k : Int} {bs : List Nat} {was : List Th} {rk re : Int} {rbs : List Nat} {rd : Bool} (h : LOk was) : (behindT k bs was rk re rbs rd).2 = true → LOk (behindT k bs was rk re rbs rd).1 := by
  unfold behindT
  split
  · exact lok_refusal h
  · split
    · exact fun _ => lok_with LPre.nil (fun t ht => by rw [List.mem_singleton.1 ht]; exact ok_read _ _) (by simp)
    · split
      · exact fun _ => lok_made h
      · exact fun e => by cases e
def canT (was : List Th) (rk re : Int) (rbs : List Nat) (rd : Bool) (zn : Nat) : Bool := ansT rk re rbs.length rd zn && (behindT 3 [] was rk re rbs rd).2
def TakeOut (w : World) (base : Nat) (fp : Nat → Prop) (o : Nat) (p : IS × Bool) (e : Ending) (w' : World) : Prop :=
  e = .returned (.bool p.2) ∧ ∃ fp', Hid (IdAt w' base fp' o p.1) ∧ Hid (Moves w fp w' fp')
/-- Take of what is no list. -/
def takeT (s : IS) (k a : Int) (bs : List Nat) (m : Int) (rk re : Int) (rbs : List Nat) (rd : Bool) (zn : Nat) : IS × Bool :=
  if !ansT rk re rbs.length rd zn then (s, false)
  else if !mayT s.size k bs.length m then (s, rk == 4 && re == 2)
  else (if (behindT k bs (s.f a) rk re rbs rd).2 then putS s a (behindT k bs (s.f a) rk re rbs rd).1 else s, (behindT k bs (s.f a) rk re rbs rd).2)
section
variable {w : World} {base o : Nat} {fp : Nat → Prop} {s : IS} {L : IdL}
theorem IdIn.bsz (h : IdIn w base fp o s L) : base ≤ w.heap.size := Nat.le_trans (h.but.ge o h.but.fo) (Nat.le_of_lt (h.but.lt o h.but.fo))
set_option maxHeartbeats 4000000 in
theorem can_any (h : IdIn w base fp o s L) (a : Int) (y : Rm) (rbs : List Nat) (hu : U64 a) (hr : Bytes w w.heap.size y.A y.n rbs) (hlen : (s.f a).length ≤ 400) :
    Calls Try.prog 15 #[.pointer (some ⟨o, 0, none⟩), .int .u64 a, repV y] w fun e w' => e = .returned (.bool (canT (s.f a) y.k y.e rbs y.d y.zn)) ∧ Below w.heap.size w w' := by
  rcases y with ⟨rk, re, rA, rn, rc, rd, zA, zn, zc⟩
  have hr : Bytes w w.heap.size rA rn rbs := hr
  obtain ⟨W1, HW1⟩ : ∃ W, Hid (w.alloc (.cells #[.int .i64 rk, .int .i64 re, .slice rA rn rc, .bool rd, .slice zA zn zc] 36) = W) := ⟨_, rfl⟩
  have S1 : Hid (Below w.heap.size w W1) := by show Below _ _ _; rw [← HW1.out]; exact (Below.refl _ _).alloc (Nat.le_refl _) _
  obtain ⟨g, HG⟩ : ∃ g, Hid (w.heap.size = g) := ⟨_, rfl⟩
  have HGL : Hid (g < W1.heap.size) := by show _ < _; rw [← HW1.out, ← HG.out]; simp
  have r0 : W1.cell? ⟨g, 0, none⟩ = some (.int .i64 rk) := by rw [← HW1.out, ← HG.out]; exact cell_first rfl
  have r1 : W1.cell? ⟨g, 1, none⟩ = some (.int .i64 re) := by rw [← HW1.out, ← HG.out]; exact cell_first rfl
  have r2 : W1.cell? ⟨g, 2, none⟩ = some (.slice rA rn rc) := by rw [← HW1.out, ← HG.out]; exact cell_first rfl
  have r3 : W1.cell? ⟨g, 3, none⟩ = some (.bool rd) := by rw [← HW1.out, ← HG.out]; exact cell_first rfl
  have r4 : W1.cell? ⟨g, 4, none⟩ = some (.slice zA zn zc) := by rw [← HW1.out, ← HG.out]; exact cell_first rfl
  have HRL : Hid (rbs.length = rn) := hr.len
  have CA : Hid (Calls Try.prog 34 #[.agg #[.int .i64 rk, .int .i64 re, .slice rA rn rc, .bool rd, .slice zA zn zc]] W1 fun e w' => e = .returned (.bool (ansT rk re rn rd zn)) ∧ Below W1.heap.size W1 w') := answer_any ⟨rk, re, rA, rn, rc, rd, zA, zn, zc⟩ W1
  have H := Lib.hid h
  have HR := Lib.hid hr
  have HU := Lib.hid hu
  have HLEN := Lib.hid hlen
  show Calls _ _ #[_, _, .agg #[.int .i64 rk, .int .i64 re, .slice rA rn rc, .bool rd, .slice zA zn zc]] _ fun e w' => e = .returned (.bool (canT (s.f a) rk re rbs rd zn)) ∧ _
  obtain ⟨cn, HCN⟩ : ∃ q, Hid (canT (s.f a) rk re rbs rd zn = q) := ⟨_, rfl⟩
  rw [HCN.out]
  clear h hr hu hlen
  rcases han : ansT rk re rn rd zn with _ | _
  · obtain rfl : cn = false := by rw [← HCN.out]; unfold canT; rw [HRL.out, han]; rfl
    rw [han] at CA
    go_enter Try.func15, Try.ntmps15
    go_wp2_with fail
    rw [HW1.out, HG.out]
    go_wp2_with fail
    refine CA.out.mono ?_
    rintro e w2 ⟨rfl, hB2⟩
    have S2 : Hid (Below w.heap.size w w2) := below_chain S1.out hB2
    clear hB2 r0 r1 r2 r3 r4
    go_wp2_with fail
    go_ret
    exact ⟨rfl, S2.out⟩
  · have HCE : Hid ((behindT 3 [] (s.f a) rk re rbs rd).2 = cn) := by show _ = _; rw [← HCN.out]; unfold canT; rw [HRL.out, han]; rfl
    rw [han] at CA
    go_enter Try.func15, Try.ntmps15
    go_wp2_with fail
    rw [HW1.out, HG.out]
    go_wp2_with fail
    refine CA.out.mono ?_
    rintro e w2 ⟨rfl, hB2⟩
    have S2 : Hid (Below w.heap.size w w2) := below_chain S1.out hB2
    have q0 := (hB2.cell (p := ⟨g, 0, none⟩) HGL.out).trans r0
    have q1 := (hB2.cell (p := ⟨g, 1, none⟩) HGL.out).trans r1
    have q2 := (hB2.cell (p := ⟨g, 2, none⟩) HGL.out).trans r2
    have q3 := (hB2.cell (p := ⟨g, 3, none⟩) HGL.out).trans r3
    have q4 := (hB2.cell (p := ⟨g, 4, none⟩) HGL.out).trans r4
    have CB : Hid (Calls Try.prog 35 #[.pointer (some ⟨o, 0, none⟩), .agg #[.int .i64 3, .int .u64 a, .slice none 0 0, .int .i64 0], .agg #[.int .i64 rk, .int .i64 re, .slice rA rn rc, .bool rd, .slice zA zn zc]] w2 (BehAt w2 s L a (behindT 3 [] (s.f a) rk re rbs rd))) := behind_any (H.out.since S2.out) ⟨3, a, none, 0, 0, 0⟩ ⟨rk, re, rA, rn, rc, rd, zA, zn, zc⟩ [] rbs HU.out Bytes.none_ (HR.out.since S2.out) HLEN.out
    unfold BehAt at CB
    rw [HCE.out] at CB
    clear hB2 r0 r1 r2 r3 r4 CA
    go_wp2_with fail
    refine CB.out.mono ?_
    rintro e w3 ⟨A3, n3, c3, rfl, hB3, _⟩
    have S3 : Hid (Below w.heap.size w w3) := below_chain S2.out hB3.out
    clear hB3 q0 q1 q2 q3 q4
    go_wp2_with fail
    go_ret
    exact ⟨rfl, S3.out⟩
theorem can_nil (a : Int) (y : Rm) (w : World) : Calls Try.prog 15 #[.pointer none, .int .u64 a, repV y] w fun e w' => e = .returned (.bool false) ∧ Below w.heap.size w w' := by
  rcases y with ⟨rk, re, rA, rn, rc, rd, zA, zn, zc⟩
  show Calls _ _ #[_, _, .agg #[.int .i64 rk, .int .i64 re, .slice rA rn rc, .bool rd, .slice zA zn zc]] _ _
  go_enter Try.func15, Try.ntmps15
  go_wp2_with fail
  go_ret
  exact ⟨rfl, (Below.refl _ _).alloc (Nat.le_refl _) _⟩
theorem take_nil (x : Om) (y : Rm) (w : World) : Calls Try.prog 18 #[.pointer none, ordV x, repV y] w fun e w' => e = .returned (.bool false) ∧ Below w.heap.size w w' := by
  rcases x with ⟨k, oa, A, n, c, m⟩
  rcases y with ⟨rk, re, rA, rn, rc, rd, zA, zn, zc⟩
  show Calls _ _ #[_, .agg #[.int .i64 k, .int .u64 oa, .slice A n c, .int .i64 m], .agg #[.int .i64 rk, .int .i64 re, .slice rA rn rc, .bool rd, .slice zA zn zc]] _ _
  have S0 : Hid (Below w.heap.size w ((w.alloc (.cells #[.int .i64 k, .int .u64 oa, .slice A n c, .int .i64 m] 32)).alloc (.cells #[.int .i64 rk, .int .i64 re, .slice rA rn rc, .bool rd, .slice zA zn zc] 36))) := since_alloc ((Below.refl _ _).alloc (Nat.le_refl _) _) _
  go_enter Try.func18, Try.ntmps18
  go_wp2_with fail
  go_ret
  exact ⟨rfl, S0.out⟩
end
end

section
open Go.RowKit

theorem made_len (k : Int) (bs : List Nat) (was : List Th) : (madeT k bs was).length ≤ 2 * was.length + 3 := by
  unfold madeT
  have e1 := len_with [⟨2, thB bs⟩] []
  have e2 := len_with [⟨1, thB bs⟩] []
  have e3 := len_with (was.map cleanT) []
  simp only [List.length_nil, List.length_singleton, List.length_map] at e1 e2 e3
  split
  · omega
  · split
    · omega
    · split
      · simp
      · split
        · unfold cleanedT; omega
        · omega
theorem behind_len (k : Int) (bs : List Nat) (was : List Th) (rk re : Int) (rbs : List Nat) (rd : Bool) : (behindT k bs was rk re rbs rd).1.length ≤ 5 * was.length + 10 := by
  have h1 := made_len k bs was
  have h2 := len_with (madeT k bs was) was
  have h3 := len_with [readT rd rbs] []
  simp only [List.length_nil, List.length_singleton] at h3
  unfold behindT
  split
  · unfold refusalT
    split
    · simp only; omega
    · split
      · simp
      · split
        · simp only; omega
        · split
          · simp only; omega
          · split
            · simp only; omega
            · simp
  · split
    · unfold blockT; simp only; omega
    · split
      · simp only; omega
      · simp
section
variable {w : World} {base o : Nat} {fp : Nat → Prop} {s : IS} {L : IdL}
theorem put_row {w w3 : World} {base o : Nat} {fp : Nat → Prop} {s : IS} {L : IdL} {a : Int} {r n c : Nat} {l : List Th} (h : IdIn w base fp o s L) (hb : Below w.heap.size w w3) (hl : LOk l)
    (hr : thK.Row w3 w.heap.size (some ⟨r, 0, none⟩) n c l ∨ (a ∈ s.ks ∧ some (⟨r, 0, none⟩ : Addr) = some ⟨L.g a, 0, none⟩ ∧ n = (s.f a).length ∧ c = L.c a ∧ l = s.f a)) : PutRow w3 base o s L a r n c l ∧ (fp r ∨ w.heap.size ≤ r) := by
  rcases hr with hr | ⟨h1, h2, h3, h4, h5⟩
  · have hge : w.heap.size ≤ r := Row.blk_ge hr r (by simp [blk])
    have hlt : ∀ b, fp b → b < w.heap.size := h.but.lt
    refine ⟨⟨hr.elder h.bsz, hl, fun e => ?_, fun m hm e => ?_, fun y hy _ e => ?_⟩, Or.inr hge⟩
    · have := hlt o h.but.fo; omega
    · have := hlt m (h.but.fm m hm); omega
    · have := hlt _ (h.but.fr y hy); omega
  · have e : r = L.g a := by injection h2 with h2; injection h2
    subst e h3 h4 h5
    exact ⟨⟨(h.since hb).but.rows a h1 (fun q => q), hl, h.but.go a h1, h.but.gm a h1, fun y hy hne e => hne (h.but.apart y hy a h1 e)⟩, Or.inl (h.but.fr a h1)⟩
set_option maxHeartbeats 8000000 in
theorem take_other (h : IdIn w base fp o s L) (x : Om) (y : Rm) (bs rbs : List Nat) (hu : U64 x.a) (hb : Bytes w w.heap.size x.A x.n bs) (hr : Bytes w w.heap.size y.A y.n rbs) (hlen : (s.f x.a).length ≤ 400) (hks : s.ks.length ≤ 900) (hne : (x.k == 6 && y.k == 3) = false) :
    Calls Try.prog 18 #[.pointer (some ⟨o, 0, none⟩), ordV x, repV y] w (TakeOut w base fp o (takeT s x.k x.a bs x.m y.k y.e rbs y.d y.zn)) := by
  rcases x with ⟨k, oa, A, n, c, m⟩
  rcases y with ⟨rk, re, rA, rn, rc, rd, zA, zn, zc⟩
  have hu : U64 oa := hu
  have hb : Bytes w w.heap.size A n bs := hb
  have hr : Bytes w w.heap.size rA rn rbs := hr
  have hlen : (s.f oa).length ≤ 400 := hlen
  have hne : (k == 6 && rk == 3) = false := hne
  obtain ⟨W1, HW1⟩ : ∃ W, Hid (w.alloc (.cells #[.int .i64 k, .int .u64 oa, .slice A n c, .int .i64 m] 32) = W) := ⟨_, rfl⟩
  obtain ⟨W2, HW2⟩ : ∃ W, Hid (W1.alloc (.cells #[.int .i64 rk, .int .i64 re, .slice rA rn rc, .bool rd, .slice zA zn zc] 36) = W) := ⟨_, rfl⟩
  obtain ⟨g, HG⟩ : ∃ g, Hid (w.heap.size = g) := ⟨_, rfl⟩
  have hs1 : W1.heap.size = g + 1 := by rw [← HW1.out, ← HG.out]; simp
  obtain ⟨g2, HG2⟩ : ∃ q, Hid (g + 1 = q) := ⟨_, rfl⟩
  rw [HG2.out] at hs1
  have S2 : Hid (Below w.heap.size w W2) := by show Below _ _ _; rw [← HW2.out]; exact since_alloc (by rw [← HW1.out]; exact (Below.refl _ _).alloc (Nat.le_refl _) _) _
  have HS2 : Hid (W2.heap.size = g2 + 1) := by show _ = _; rw [← HW2.out, ← hs1]; simp
  have HGG : Hid (g < g2) := by show _ < _; rw [← HG2.out]; omega
  have kc0 : W1.cell? ⟨g, 0, none⟩ = some (.int .i64 k) := by rw [← HW1.out, ← HG.out]; exact cell_first rfl
  have kc1 : W1.cell? ⟨g, 1, none⟩ = some (.int .u64 oa) := by rw [← HW1.out, ← HG.out]; exact cell_first rfl
  have kc2 : W1.cell? ⟨g, 2, none⟩ = some (.slice A n c) := by rw [← HW1.out, ← HG.out]; exact cell_first rfl
  have kc3 : W1.cell? ⟨g, 3, none⟩ = some (.int .i64 m) := by rw [← HW1.out, ← HG.out]; exact cell_first rfl
  have O0 : W2.cell? ⟨g, 0, none⟩ = some (.int .i64 k) := by rw [← HW2.out]; exact cell_old kc0
  have O1 : W2.cell? ⟨g, 1, none⟩ = some (.int .u64 oa) := by rw [← HW2.out]; exact cell_old kc1
  have O2 : W2.cell? ⟨g, 2, none⟩ = some (.slice A n c) := by rw [← HW2.out]; exact cell_old kc2
  have O3 : W2.cell? ⟨g, 3, none⟩ = some (.int .i64 m) := by rw [← HW2.out]; exact cell_old kc3
  have R0 : W2.cell? ⟨g2, 0, none⟩ = some (.int .i64 rk) := by rw [← HW2.out, ← hs1]; exact cell_first rfl
  have R1 : W2.cell? ⟨g2, 1, none⟩ = some (.int .i64 re) := by rw [← HW2.out, ← hs1]; exact cell_first rfl
  have R2 : W2.cell? ⟨g2, 2, none⟩ = some (.slice rA rn rc) := by rw [← HW2.out, ← hs1]; exact cell_first rfl
  have R3 : W2.cell? ⟨g2, 3, none⟩ = some (.bool rd) := by rw [← HW2.out, ← hs1]; exact cell_first rfl
  have R4 : W2.cell? ⟨g2, 4, none⟩ = some (.slice zA zn zc) := by rw [← HW2.out, ← hs1]; exact cell_first rfl
  have HGL1 : Hid (g < W2.heap.size) := by show _ < _; rw [HS2.out]; have := HGG.out; omega
  have HGL2 : Hid (g2 < W2.heap.size) := by show _ < _; rw [HS2.out]; omega
  have HRL : Hid (rbs.length = rn) := hr.len
  have HBL : Hid (bs.length = n) := hb.len
  have H := Lib.hid h
  have HB := Lib.hid hb
  have HRB := Lib.hid hr
  have HU := Lib.hid hu
  have HLEN := Lib.hid hlen
  have HKS := Lib.hid hks
  have CA : Hid (Calls Try.prog 34 #[.agg #[.int .i64 rk, .int .i64 re, .slice rA rn rc, .bool rd, .slice zA zn zc]] W2 fun e w' => e = .returned (.bool (ansT rk re rn rd zn)) ∧ Below W2.heap.size W2 w') := answer_any ⟨rk, re, rA, rn, rc, rd, zA, zn, zc⟩ W2
  have CM : Hid (∀ W, Below w.heap.size w W → Calls Try.prog 16 #[.pointer (some ⟨o, 0, none⟩), .agg #[.int .i64 k, .int .u64 oa, .slice A n c, .int .i64 m]] W fun e w' => e = .returned (.bool (mayT s.size k n m)) ∧ Below W.heap.size W w') := fun W hw => may_any (H.out.since hw) ⟨k, oa, A, n, c, m⟩
  have CB : Hid (∀ W, Below w.heap.size w W → Calls Try.prog 35 #[.pointer (some ⟨o, 0, none⟩), .agg #[.int .i64 k, .int .u64 oa, .slice A n c, .int .i64 m], .agg #[.int .i64 rk, .int .i64 re, .slice rA rn rc, .bool rd, .slice zA zn zc]] W (BehAt W s L oa (behindT k bs (s.f oa) rk re rbs rd))) := fun W hw => behind_any (H.out.since hw) ⟨k, oa, A, n, c, m⟩ ⟨rk, re, rA, rn, rc, rd, zA, zn, zc⟩ bs rbs HU.out (HB.out.since hw) (HRB.out.since hw) HLEN.out
  have HSAME : Hid (∀ W, Below w.heap.size w W → ∃ fp', Hid (IdAt W base fp' o s) ∧ Hid (Moves w fp W fp')) := fun W hw => ⟨fp, ⟨L, H.out.since hw⟩, Moves.of_below hw⟩
  have HWW : Hid ((w.alloc (.cells #[.int .i64 k, .int .u64 oa, .slice A n c, .int .i64 m] 32)).alloc (.cells #[.int .i64 rk, .int .i64 re, .slice rA rn rc, .bool rd, .slice zA zn zc] 36) = W2) := by show _ = _; rw [HW1.out]; exact HW2.out
  clear kc0 kc1 kc2 kc3 hs1 HW1 HW2 h hb hr hlen hu hks
  show Calls _ _ #[_, .agg #[.int .i64 k, .int .u64 oa, .slice A n c, .int .i64 m], .agg #[.int .i64 rk, .int .i64 re, .slice rA rn rc, .bool rd, .slice zA zn zc]] _ (TakeOut w base fp o (takeT s k oa bs m rk re rbs rd zn))
  obtain ⟨pr, HPR⟩ : ∃ p, Hid (takeT s k oa bs m rk re rbs rd zn = p) := ⟨_, rfl⟩
  rw [HPR.out]
  rcases han : ansT rk re rn rd zn with _ | _
  · have HE : Hid (pr = (s, false)) := by show _ = _; rw [← HPR.out]; unfold takeT; rw [HRL.out, HBL.out]; simp [han]
    rw [HE.out]
    rw [han] at CA
    go_enter Try.func18, Try.ntmps18
    go_wp2_with fail
    rw [HWW.out, HG.out, HG2.out]
    go_wp2_with fail
    refine CA.out.mono ?_
    rintro e w3 ⟨rfl, hB3⟩
    have S3 : Hid (Below w.heap.size w w3) := below_chain S2.out hB3
    have HZ2 : Hid (W2.heap.size ≤ w3.heap.size) := hB3.size
    have q0 := (hB3.cell (p := ⟨g, 0, none⟩) HGL1.out).trans O0
    have q1 := (hB3.cell (p := ⟨g, 1, none⟩) HGL1.out).trans O1
    have q2 := (hB3.cell (p := ⟨g, 2, none⟩) HGL1.out).trans O2
    have q3 := (hB3.cell (p := ⟨g, 3, none⟩) HGL1.out).trans O3
    have p0 := (hB3.cell (p := ⟨g2, 0, none⟩) HGL2.out).trans R0
    have p1 := (hB3.cell (p := ⟨g2, 1, none⟩) HGL2.out).trans R1
    have p2 := (hB3.cell (p := ⟨g2, 2, none⟩) HGL2.out).trans R2
    have p3 := (hB3.cell (p := ⟨g2, 3, none⟩) HGL2.out).trans R3
    have p4 := (hB3.cell (p := ⟨g2, 4, none⟩) HGL2.out).trans R4
    clear hB3 O0 O1 O2 O3 R0 R1 R2 R3 R4
    obtain ⟨fp', HI, HM⟩ := HSAME.out w3 S3.out
    clear q0 q1 q2 q3 p0 p1 p2 p3 p4
    go_wp2_with fail
    go_ret
    exact ⟨rfl, _, HI, HM⟩
  · rw [han] at CA
    rcases hmy : mayT s.size k n m with _ | _
    · have HE : Hid (pr = (s, rk == 4 && re == 2)) := by show _ = _; rw [← HPR.out]; unfold takeT; rw [HRL.out, HBL.out]; simp [han, hmy]
      rcases h4 : (rk == 4) with _ | _
      · rw [h4] at HE
        rw [HE.out]
        go_enter Try.func18, Try.ntmps18
        go_wp2_with fail
        rw [HWW.out, HG.out, HG2.out]
        go_wp2_with fail
        refine CA.out.mono ?_
        rintro e w3 ⟨rfl, hB3⟩
        have S3 : Hid (Below w.heap.size w w3) := below_chain S2.out hB3
        have HZ2 : Hid (W2.heap.size ≤ w3.heap.size) := hB3.size
        have q0 := (hB3.cell (p := ⟨g, 0, none⟩) HGL1.out).trans O0
        have q1 := (hB3.cell (p := ⟨g, 1, none⟩) HGL1.out).trans O1
        have q2 := (hB3.cell (p := ⟨g, 2, none⟩) HGL1.out).trans O2
        have q3 := (hB3.cell (p := ⟨g, 3, none⟩) HGL1.out).trans O3
        have p0 := (hB3.cell (p := ⟨g2, 0, none⟩) HGL2.out).trans R0
        have p1 := (hB3.cell (p := ⟨g2, 1, none⟩) HGL2.out).trans R1
        have p2 := (hB3.cell (p := ⟨g2, 2, none⟩) HGL2.out).trans R2
        have p3 := (hB3.cell (p := ⟨g2, 3, none⟩) HGL2.out).trans R3
        have p4 := (hB3.cell (p := ⟨g2, 4, none⟩) HGL2.out).trans R4
        clear hB3 O0 O1 O2 O3 R0 R1 R2 R3 R4
        have CM2 := Lib.hid (CM.out w3 S3.out)
        rw [hmy] at CM2
        have HZ3 : Hid (g < w3.heap.size ∧ g2 < w3.heap.size) := by
          have h1 := HS2.out; have h2 := HGG.out
          have h3 : W2.heap.size ≤ w3.heap.size := HZ2.out
          exact ⟨by omega, by omega⟩
        go_wp2_with fail
        refine CM2.out.mono ?_
        rintro e w4 ⟨rfl, hB4⟩
        have S4 : Hid (Below w.heap.size w w4) := below_chain S3.out hB4
        have u0 := (hB4.cell (p := ⟨g, 0, none⟩) HZ3.out.1).trans q0
        have u1 := (hB4.cell (p := ⟨g, 1, none⟩) HZ3.out.1).trans q1
        have u2 := (hB4.cell (p := ⟨g, 2, none⟩) HZ3.out.1).trans q2
        have u3 := (hB4.cell (p := ⟨g, 3, none⟩) HZ3.out.1).trans q3
        have v0 := (hB4.cell (p := ⟨g2, 0, none⟩) HZ3.out.2).trans p0
        have v1 := (hB4.cell (p := ⟨g2, 1, none⟩) HZ3.out.2).trans p1
        have v2 := (hB4.cell (p := ⟨g2, 2, none⟩) HZ3.out.2).trans p2
        have v3 := (hB4.cell (p := ⟨g2, 3, none⟩) HZ3.out.2).trans p3
        have v4 := (hB4.cell (p := ⟨g2, 4, none⟩) HZ3.out.2).trans p4
        have HZ4 : Hid (g < w4.heap.size) := Nat.lt_of_lt_of_le HZ3.out.1 hB4.size
        clear hB4 q0 q1 q2 q3 p0 p1 p2 p3 p4 CM2
        obtain ⟨fp', HI, HM⟩ := HSAME.out w4 S4.out
        go_wp2_with fail
        go_ret
        exact ⟨rfl, _, HI, HM⟩
      · rw [h4] at HE
        rcases h2 : (re == 2) with _ | _
        · rw [h2] at HE
          rw [HE.out]
          go_enter Try.func18, Try.ntmps18
          go_wp2_with fail
          rw [HWW.out, HG.out, HG2.out]
          go_wp2_with fail
          refine CA.out.mono ?_
          rintro e w3 ⟨rfl, hB3⟩
          have S3 : Hid (Below w.heap.size w w3) := below_chain S2.out hB3
          have HZ2 : Hid (W2.heap.size ≤ w3.heap.size) := hB3.size
          have q0 := (hB3.cell (p := ⟨g, 0, none⟩) HGL1.out).trans O0
          have q1 := (hB3.cell (p := ⟨g, 1, none⟩) HGL1.out).trans O1
          have q2 := (hB3.cell (p := ⟨g, 2, none⟩) HGL1.out).trans O2
          have q3 := (hB3.cell (p := ⟨g, 3, none⟩) HGL1.out).trans O3
          have p0 := (hB3.cell (p := ⟨g2, 0, none⟩) HGL2.out).trans R0
          have p1 := (hB3.cell (p := ⟨g2, 1, none⟩) HGL2.out).trans R1
          have p2 := (hB3.cell (p := ⟨g2, 2, none⟩) HGL2.out).trans R2
          have p3 := (hB3.cell (p := ⟨g2, 3, none⟩) HGL2.out).trans R3
          have p4 := (hB3.cell (p := ⟨g2, 4, none⟩) HGL2.out).trans R4
          clear hB3 O0 O1 O2 O3 R0 R1 R2 R3 R4
          have CM2 := Lib.hid (CM.out w3 S3.out)
          rw [hmy] at CM2
          have HZ3 : Hid (g < w3.heap.size ∧ g2 < w3.heap.size) := by
            have h1 := HS2.out; have h2 := HGG.out
            have h3 : W2.heap.size ≤ w3.heap.size := HZ2.out
            exact ⟨by omega, by omega⟩
          go_wp2_with fail
          refine CM2.out.mono ?_
          rintro e w4 ⟨rfl, hB4⟩
          have S4 : Hid (Below w.heap.size w w4) := below_chain S3.out hB4
          have u0 := (hB4.cell (p := ⟨g, 0, none⟩) HZ3.out.1).trans q0
          have u1 := (hB4.cell (p := ⟨g, 1, none⟩) HZ3.out.1).trans q1
          have u2 := (hB4.cell (p := ⟨g, 2, none⟩) HZ3.out.1).trans q2
          have u3 := (hB4.cell (p := ⟨g, 3, none⟩) HZ3.out.1).trans q3
          have v0 := (hB4.cell (p := ⟨g2, 0, none⟩) HZ3.out.2).trans p0
          have v1 := (hB4.cell (p := ⟨g2, 1, none⟩) HZ3.out.2).trans p1
          have v2 := (hB4.cell (p := ⟨g2, 2, none⟩) HZ3.out.2).trans p2
          have v3 := (hB4.cell (p := ⟨g2, 3, none⟩) HZ3.out.2).trans p3
          have v4 := (hB4.cell (p := ⟨g2, 4, none⟩) HZ3.out.2).trans p4
          have HZ4 : Hid (g < w4.heap.size) := Nat.lt_of_lt_of_le HZ3.out.1 hB4.size
          clear hB4 q0 q1 q2 q3 p0 p1 p2 p3 p4 CM2
          obtain ⟨fp', HI, HM⟩ := HSAME.out w4 S4.out
          go_wp2_with fail
          go_ret
          exact ⟨rfl, _, HI, HM⟩
        · rw [h2] at HE
          rw [HE.out]
          go_enter Try.func18, Try.ntmps18
          go_wp2_with fail
          rw [HWW.out, HG.out, HG2.out]
          go_wp2_with fail
          refine CA.out.mono ?_
          rintro e w3 ⟨rfl, hB3⟩
          have S3 : Hid (Below w.heap.size w w3) := below_chain S2.out hB3
          have HZ2 : Hid (W2.heap.size ≤ w3.heap.size) := hB3.size
          have q0 := (hB3.cell (p := ⟨g, 0, none⟩) HGL1.out).trans O0
          have q1 := (hB3.cell (p := ⟨g, 1, none⟩) HGL1.out).trans O1
          have q2 := (hB3.cell (p := ⟨g, 2, none⟩) HGL1.out).trans O2
          have q3 := (hB3.cell (p := ⟨g, 3, none⟩) HGL1.out).trans O3
          have p0 := (hB3.cell (p := ⟨g2, 0, none⟩) HGL2.out).trans R0
          have p1 := (hB3.cell (p := ⟨g2, 1, none⟩) HGL2.out).trans R1
          have p2 := (hB3.cell (p := ⟨g2, 2, none⟩) HGL2.out).trans R2
          have p3 := (hB3.cell (p := ⟨g2, 3, none⟩) HGL2.out).trans R3
          have p4 := (hB3.cell (p := ⟨g2, 4, none⟩) HGL2.out).trans R4
          clear hB3 O0 O1 O2 O3 R0 R1 R2 R3 R4
          have CM2 := Lib.hid (CM.out w3 S3.out)
          rw [hmy] at CM2
          have HZ3 : Hid (g < w3.heap.size ∧ g2 < w3.heap.size) := by
            have h1 := HS2.out; have h2 := HGG.out
            have h3 : W2.heap.size ≤ w3.heap.size := HZ2.out
            exact ⟨by omega, by omega⟩
          go_wp2_with fail
          refine CM2.out.mono ?_
          rintro e w4 ⟨rfl, hB4⟩
          have S4 : Hid (Below w.heap.size w w4) := below_chain S3.out hB4
          have u0 := (hB4.cell (p := ⟨g, 0, none⟩) HZ3.out.1).trans q0
          have u1 := (hB4.cell (p := ⟨g, 1, none⟩) HZ3.out.1).trans q1
          have u2 := (hB4.cell (p := ⟨g, 2, none⟩) HZ3.out.1).trans q2
          have u3 := (hB4.cell (p := ⟨g, 3, none⟩) HZ3.out.1).trans q3
          have v0 := (hB4.cell (p := ⟨g2, 0, none⟩) HZ3.out.2).trans p0
          have v1 := (hB4.cell (p := ⟨g2, 1, none⟩) HZ3.out.2).trans p1
          have v2 := (hB4.cell (p := ⟨g2, 2, none⟩) HZ3.out.2).trans p2
          have v3 := (hB4.cell (p := ⟨g2, 3, none⟩) HZ3.out.2).trans p3
          have v4 := (hB4.cell (p := ⟨g2, 4, none⟩) HZ3.out.2).trans p4
          have HZ4 : Hid (g < w4.heap.size) := Nat.lt_of_lt_of_le HZ3.out.1 hB4.size
          clear hB4 q0 q1 q2 q3 p0 p1 p2 p3 p4 CM2
          obtain ⟨fp', HI, HM⟩ := HSAME.out w4 S4.out
          go_wp2_with fail
          go_ret
          exact ⟨rfl, _, HI, HM⟩
    · rcases h6 : (k == 6) with _ | _
      · obtain ⟨bp, HBP⟩ : ∃ p, Hid (behindT k bs (s.f oa) rk re rbs rd = p) := ⟨_, rfl⟩
        have HE : Hid (pr = (if bp.2 then putS s oa bp.1 else s, bp.2)) := by show _ = _; rw [← HPR.out]; unfold takeT; rw [HRL.out, HBL.out, HBP.out]; simp [han, hmy]
        rw [HBP.out] at CB
        have HLK : Hid (bp.2 = true → LOk bp.1) := by rw [← HBP.out]; exact lok_behind (H.out.but.ok.l oa)
        obtain ⟨bl, bq⟩ := bp
        rcases bq with _ | _
        · have HE2 : Hid (pr = (s, false)) := by show _ = _; rw [HE.out]; rfl
          rw [HE2.out]
          go_enter Try.func18, Try.ntmps18
          go_wp2_with fail
          rw [HWW.out, HG.out, HG2.out]
          go_wp2_with fail
          refine CA.out.mono ?_
          rintro e w3 ⟨rfl, hB3⟩
          have S3 : Hid (Below w.heap.size w w3) := below_chain S2.out hB3
          have HZ2 : Hid (W2.heap.size ≤ w3.heap.size) := hB3.size
          have q0 := (hB3.cell (p := ⟨g, 0, none⟩) HGL1.out).trans O0
          have q1 := (hB3.cell (p := ⟨g, 1, none⟩) HGL1.out).trans O1
          have q2 := (hB3.cell (p := ⟨g, 2, none⟩) HGL1.out).trans O2
          have q3 := (hB3.cell (p := ⟨g, 3, none⟩) HGL1.out).trans O3
          have p0 := (hB3.cell (p := ⟨g2, 0, none⟩) HGL2.out).trans R0
          have p1 := (hB3.cell (p := ⟨g2, 1, none⟩) HGL2.out).trans R1
          have p2 := (hB3.cell (p := ⟨g2, 2, none⟩) HGL2.out).trans R2
          have p3 := (hB3.cell (p := ⟨g2, 3, none⟩) HGL2.out).trans R3
          have p4 := (hB3.cell (p := ⟨g2, 4, none⟩) HGL2.out).trans R4
          clear hB3 O0 O1 O2 O3 R0 R1 R2 R3 R4
          have CM2 := Lib.hid (CM.out w3 S3.out)
          rw [hmy] at CM2
          have HZ3 : Hid (g < w3.heap.size ∧ g2 < w3.heap.size) := by
            have h1 := HS2.out; have h2 := HGG.out
            have h3 : W2.heap.size ≤ w3.heap.size := HZ2.out
            exact ⟨by omega, by omega⟩
          go_wp2_with fail
          refine CM2.out.mono ?_
          rintro e w4 ⟨rfl, hB4⟩
          have S4 : Hid (Below w.heap.size w w4) := below_chain S3.out hB4
          have u0 := (hB4.cell (p := ⟨g, 0, none⟩) HZ3.out.1).trans q0
          have u1 := (hB4.cell (p := ⟨g, 1, none⟩) HZ3.out.1).trans q1
          have u2 := (hB4.cell (p := ⟨g, 2, none⟩) HZ3.out.1).trans q2
          have u3 := (hB4.cell (p := ⟨g, 3, none⟩) HZ3.out.1).trans q3
          have v0 := (hB4.cell (p := ⟨g2, 0, none⟩) HZ3.out.2).trans p0
          have v1 := (hB4.cell (p := ⟨g2, 1, none⟩) HZ3.out.2).trans p1
          have v2 := (hB4.cell (p := ⟨g2, 2, none⟩) HZ3.out.2).trans p2
          have v3 := (hB4.cell (p := ⟨g2, 3, none⟩) HZ3.out.2).trans p3
          have v4 := (hB4.cell (p := ⟨g2, 4, none⟩) HZ3.out.2).trans p4
          have HZ4 : Hid (g < w4.heap.size) := Nat.lt_of_lt_of_le HZ3.out.1 hB4.size
          clear hB4 q0 q1 q2 q3 p0 p1 p2 p3 p4 CM2
          have CB4 := Lib.hid (CB.out w4 S4.out)
          go_wp2_with fail
          refine CB4.out.mono ?_
          rintro e w5 ⟨A5, n5, c5, rfl, hB5, _⟩
          have S5 : Hid (Below w.heap.size w w5) := below_chain S4.out hB5.out
          obtain ⟨fp', HI, HM⟩ := HSAME.out w5 S5.out
          clear hB5 u0 u1 u2 u3 v0 v1 v2 v3 v4
          go_wp2_with fail
          go_ret
          exact ⟨rfl, _, HI, HM⟩
        · have HE2 : Hid (pr = (putS s oa bl, true)) := by show _ = _; rw [HE.out]; rfl
          rw [HE2.out]
          go_enter Try.func18, Try.ntmps18
          go_wp2_with fail
          rw [HWW.out, HG.out, HG2.out]
          go_wp2_with fail
          refine CA.out.mono ?_
          rintro e w3 ⟨rfl, hB3⟩
          have S3 : Hid (Below w.heap.size w w3) := below_chain S2.out hB3
          have HZ2 : Hid (W2.heap.size ≤ w3.heap.size) := hB3.size
          have q0 := (hB3.cell (p := ⟨g, 0, none⟩) HGL1.out).trans O0
          have q1 := (hB3.cell (p := ⟨g, 1, none⟩) HGL1.out).trans O1
          have q2 := (hB3.cell (p := ⟨g, 2, none⟩) HGL1.out).trans O2
          have q3 := (hB3.cell (p := ⟨g, 3, none⟩) HGL1.out).trans O3
          have p0 := (hB3.cell (p := ⟨g2, 0, none⟩) HGL2.out).trans R0
          have p1 := (hB3.cell (p := ⟨g2, 1, none⟩) HGL2.out).trans R1
          have p2 := (hB3.cell (p := ⟨g2, 2, none⟩) HGL2.out).trans R2
          have p3 := (hB3.cell (p := ⟨g2, 3, none⟩) HGL2.out).trans R3
          have p4 := (hB3.cell (p := ⟨g2, 4, none⟩) HGL2.out).trans R4
          clear hB3 O0 O1 O2 O3 R0 R1 R2 R3 R4
          have CM2 := Lib.hid (CM.out w3 S3.out)
          rw [hmy] at CM2
          have HZ3 : Hid (g < w3.heap.size ∧ g2 < w3.heap.size) := by
            have h1 := HS2.out; have h2 := HGG.out
            have h3 : W2.heap.size ≤ w3.heap.size := HZ2.out
            exact ⟨by omega, by omega⟩
          go_wp2_with fail
          refine CM2.out.mono ?_
          rintro e w4 ⟨rfl, hB4⟩
          have S4 : Hid (Below w.heap.size w w4) := below_chain S3.out hB4
          have u0 := (hB4.cell (p := ⟨g, 0, none⟩) HZ3.out.1).trans q0
          have u1 := (hB4.cell (p := ⟨g, 1, none⟩) HZ3.out.1).trans q1
          have u2 := (hB4.cell (p := ⟨g, 2, none⟩) HZ3.out.1).trans q2
          have u3 := (hB4.cell (p := ⟨g, 3, none⟩) HZ3.out.1).trans q3
          have v0 := (hB4.cell (p := ⟨g2, 0, none⟩) HZ3.out.2).trans p0
          have v1 := (hB4.cell (p := ⟨g2, 1, none⟩) HZ3.out.2).trans p1
          have v2 := (hB4.cell (p := ⟨g2, 2, none⟩) HZ3.out.2).trans p2
          have v3 := (hB4.cell (p := ⟨g2, 3, none⟩) HZ3.out.2).trans p3
          have v4 := (hB4.cell (p := ⟨g2, 4, none⟩) HZ3.out.2).trans p4
          have HZ4 : Hid (g < w4.heap.size) := Nat.lt_of_lt_of_le HZ3.out.1 hB4.size
          clear hB4 q0 q1 q2 q3 p0 p1 p2 p3 p4 CM2
          have CB4 := Lib.hid (CB.out w4 S4.out)
          go_wp2_with fail
          refine CB4.out.mono ?_
          rintro e w5 ⟨A5, n5, c5, rfl, hB5, hO5⟩
          have S5 : Hid (Below w.heap.size w w5) := below_chain S4.out hB5.out
          have t1 := (hB5.out.cell (p := ⟨g, 1, none⟩) HZ4.out).trans u1
          have hLK := HLK.out (by trivial)
          have HA5 : Hid (∃ r, A5 = some ⟨r, 0, none⟩) := by
            rcases hO5.out rfl with h1 | ⟨_, h1, _⟩
            · exact row_some h1 (by rw [← h1.len]; exact List.length_pos_iff.2 hLK.ne)
            · exact ⟨_, h1⟩
          obtain ⟨r5, rfl⟩ := HA5.out
          have hPR := put_row (a := oa) (n := n5) (c := c5) (H.out) S5.out hLK (by
            rcases hO5.out rfl with h1 | h1
            · exact Or.inl (h1.elder S4.out.size)
            · exact Or.inr h1)
          have HR5 : Hid (fp r5 ∨ w.heap.size ≤ r5) := hPR.2
          have hn5 : n5 ≤ 8000 := by
            rw [← hPR.1.row.len]
            have h1 := behind_len k bs (s.f oa) rk re rbs rd
            rw [HBP.out] at h1
            have h2 := HLEN.out
            have h3 : bl.length ≤ 5 * (s.f oa).length + 10 := h1
            omega
          have CP := Lib.hid (put_any (L := L) (((H.out.since S5.out).but).more fun _ q => q.elim) (H.out.since S5.out).map HU.out hPR.1 hn5 (by have := HKS.out; omega) (H.out.since S5.out).bsz (obj_not_map H.out))
          clear hB5 hO5 hPR hLK u0 u1 u2 u3 v0 v1 v2 v3 v4 CB4 hn5
          go_wp2_with fail
          refine CP.out.mono ?_
          rintro e w6 ⟨rfl, fp', hI6, hT6, hG6⟩
          have HM6 : Hid (Moves w fp w6 fp') := ⟨(Turn.of_below S5.out).trans hT6.out fun b hb => Or.inl hb, fun b hb => by
            rcases hG6.out b hb with h1 | rfl | h1
            · exact Or.inl h1
            · exact HR5.out
            · exact Or.inr (Nat.le_trans S5.out.size h1)⟩
          clear hT6 hG6 CP t1
          go_wp2_with fail
          go_ret
          exact ⟨rfl, _, hI6, HM6⟩
      · have h3 : (rk == 3) = false := by rw [h6] at hne; simpa using hne
        obtain ⟨bp, HBP⟩ : ∃ p, Hid (behindT k bs (s.f oa) rk re rbs rd = p) := ⟨_, rfl⟩
        have HE : Hid (pr = (if bp.2 then putS s oa bp.1 else s, bp.2)) := by show _ = _; rw [← HPR.out]; unfold takeT; rw [HRL.out, HBL.out, HBP.out]; simp [han, hmy]
        rw [HBP.out] at CB
        have HLK : Hid (bp.2 = true → LOk bp.1) := by rw [← HBP.out]; exact lok_behind (H.out.but.ok.l oa)
        obtain ⟨bl, bq⟩ := bp
        rcases bq with _ | _
        · have HE2 : Hid (pr = (s, false)) := by show _ = _; rw [HE.out]; rfl
          rw [HE2.out]
          go_enter Try.func18, Try.ntmps18
          go_wp2_with fail
          rw [HWW.out, HG.out, HG2.out]
          go_wp2_with fail
          refine CA.out.mono ?_
          rintro e w3 ⟨rfl, hB3⟩
          have S3 : Hid (Below w.heap.size w w3) := below_chain S2.out hB3
          have HZ2 : Hid (W2.heap.size ≤ w3.heap.size) := hB3.size
          have q0 := (hB3.cell (p := ⟨g, 0, none⟩) HGL1.out).trans O0
          have q1 := (hB3.cell (p := ⟨g, 1, none⟩) HGL1.out).trans O1
          have q2 := (hB3.cell (p := ⟨g, 2, none⟩) HGL1.out).trans O2
          have q3 := (hB3.cell (p := ⟨g, 3, none⟩) HGL1.out).trans O3
          have p0 := (hB3.cell (p := ⟨g2, 0, none⟩) HGL2.out).trans R0
          have p1 := (hB3.cell (p := ⟨g2, 1, none⟩) HGL2.out).trans R1
          have p2 := (hB3.cell (p := ⟨g2, 2, none⟩) HGL2.out).trans R2
          have p3 := (hB3.cell (p := ⟨g2, 3, none⟩) HGL2.out).trans R3
          have p4 := (hB3.cell (p := ⟨g2, 4, none⟩) HGL2.out).trans R4
          clear hB3 O0 O1 O2 O3 R0 R1 R2 R3 R4
          have CM2 := Lib.hid (CM.out w3 S3.out)
          rw [hmy] at CM2
          have HZ3 : Hid (g < w3.heap.size ∧ g2 < w3.heap.size) := by
            have h1 := HS2.out; have h2 := HGG.out
            have h3 : W2.heap.size ≤ w3.heap.size := HZ2.out
            exact ⟨by omega, by omega⟩
          go_wp2_with fail
          refine CM2.out.mono ?_
          rintro e w4 ⟨rfl, hB4⟩
          have S4 : Hid (Below w.heap.size w w4) := below_chain S3.out hB4
          have u0 := (hB4.cell (p := ⟨g, 0, none⟩) HZ3.out.1).trans q0
          have u1 := (hB4.cell (p := ⟨g, 1, none⟩) HZ3.out.1).trans q1
          have u2 := (hB4.cell (p := ⟨g, 2, none⟩) HZ3.out.1).trans q2
          have u3 := (hB4.cell (p := ⟨g, 3, none⟩) HZ3.out.1).trans q3
          have v0 := (hB4.cell (p := ⟨g2, 0, none⟩) HZ3.out.2).trans p0
          have v1 := (hB4.cell (p := ⟨g2, 1, none⟩) HZ3.out.2).trans p1
          have v2 := (hB4.cell (p := ⟨g2, 2, none⟩) HZ3.out.2).trans p2
          have v3 := (hB4.cell (p := ⟨g2, 3, none⟩) HZ3.out.2).trans p3
          have v4 := (hB4.cell (p := ⟨g2, 4, none⟩) HZ3.out.2).trans p4
          have HZ4 : Hid (g < w4.heap.size) := Nat.lt_of_lt_of_le HZ3.out.1 hB4.size
          clear hB4 q0 q1 q2 q3 p0 p1 p2 p3 p4 CM2
          have CB4 := Lib.hid (CB.out w4 S4.out)
          go_wp2_with fail
          refine CB4.out.mono ?_
          rintro e w5 ⟨A5, n5, c5, rfl, hB5, _⟩
          have S5 : Hid (Below w.heap.size w w5) := below_chain S4.out hB5.out
          obtain ⟨fp', HI, HM⟩ := HSAME.out w5 S5.out
          clear hB5 u0 u1 u2 u3 v0 v1 v2 v3 v4
          go_wp2_with fail
          go_ret
          exact ⟨rfl, _, HI, HM⟩
        · have HE2 : Hid (pr = (putS s oa bl, true)) := by show _ = _; rw [HE.out]; rfl
          rw [HE2.out]
          go_enter Try.func18, Try.ntmps18
          go_wp2_with fail
          rw [HWW.out, HG.out, HG2.out]
          go_wp2_with fail
          refine CA.out.mono ?_
          rintro e w3 ⟨rfl, hB3⟩
          have S3 : Hid (Below w.heap.size w w3) := below_chain S2.out hB3
          have HZ2 : Hid (W2.heap.size ≤ w3.heap.size) := hB3.size
          have q0 := (hB3.cell (p := ⟨g, 0, none⟩) HGL1.out).trans O0
          have q1 := (hB3.cell (p := ⟨g, 1, none⟩) HGL1.out).trans O1
          have q2 := (hB3.cell (p := ⟨g, 2, none⟩) HGL1.out).trans O2
          have q3 := (hB3.cell (p := ⟨g, 3, none⟩) HGL1.out).trans O3
          have p0 := (hB3.cell (p := ⟨g2, 0, none⟩) HGL2.out).trans R0
          have p1 := (hB3.cell (p := ⟨g2, 1, none⟩) HGL2.out).trans R1
          have p2 := (hB3.cell (p := ⟨g2, 2, none⟩) HGL2.out).trans R2
          have p3 := (hB3.cell (p := ⟨g2, 3, none⟩) HGL2.out).trans R3
          have p4 := (hB3.cell (p := ⟨g2, 4, none⟩) HGL2.out).trans R4
          clear hB3 O0 O1 O2 O3 R0 R1 R2 R3 R4
          have CM2 := Lib.hid (CM.out w3 S3.out)
          rw [hmy] at CM2
          have HZ3 : Hid (g < w3.heap.size ∧ g2 < w3.heap.size) := by
            have h1 := HS2.out; have h2 := HGG.out
            have h3 : W2.heap.size ≤ w3.heap.size := HZ2.out
            exact ⟨by omega, by omega⟩
          go_wp2_with fail
          refine CM2.out.mono ?_
          rintro e w4 ⟨rfl, hB4⟩
          have S4 : Hid (Below w.heap.size w w4) := below_chain S3.out hB4
          have u0 := (hB4.cell (p := ⟨g, 0, none⟩) HZ3.out.1).trans q0
          have u1 := (hB4.cell (p := ⟨g, 1, none⟩) HZ3.out.1).trans q1
          have u2 := (hB4.cell (p := ⟨g, 2, none⟩) HZ3.out.1).trans q2
          have u3 := (hB4.cell (p := ⟨g, 3, none⟩) HZ3.out.1).trans q3
          have v0 := (hB4.cell (p := ⟨g2, 0, none⟩) HZ3.out.2).trans p0
          have v1 := (hB4.cell (p := ⟨g2, 1, none⟩) HZ3.out.2).trans p1
          have v2 := (hB4.cell (p := ⟨g2, 2, none⟩) HZ3.out.2).trans p2
          have v3 := (hB4.cell (p := ⟨g2, 3, none⟩) HZ3.out.2).trans p3
          have v4 := (hB4.cell (p := ⟨g2, 4, none⟩) HZ3.out.2).trans p4
          have HZ4 : Hid (g < w4.heap.size) := Nat.lt_of_lt_of_le HZ3.out.1 hB4.size
          clear hB4 q0 q1 q2 q3 p0 p1 p2 p3 p4 CM2
          have CB4 := Lib.hid (CB.out w4 S4.out)
          go_wp2_with fail
          refine CB4.out.mono ?_
          rintro e w5 ⟨A5, n5, c5, rfl, hB5, hO5⟩
          have S5 : Hid (Below w.heap.size w w5) := below_chain S4.out hB5.out
          have t1 := (hB5.out.cell (p := ⟨g, 1, none⟩) HZ4.out).trans u1
          have hLK := HLK.out (by trivial)
          have HA5 : Hid (∃ r, A5 = some ⟨r, 0, none⟩) := by
            rcases hO5.out rfl with h1 | ⟨_, h1, _⟩
            · exact row_some h1 (by rw [← h1.len]; exact List.length_pos_iff.2 hLK.ne)
            · exact ⟨_, h1⟩
          obtain ⟨r5, rfl⟩ := HA5.out
          have hPR := put_row (a := oa) (n := n5) (c := c5) (H.out) S5.out hLK (by
            rcases hO5.out rfl with h1 | h1
            · exact Or.inl (h1.elder S4.out.size)
            · exact Or.inr h1)
          have HR5 : Hid (fp r5 ∨ w.heap.size ≤ r5) := hPR.2
          have hn5 : n5 ≤ 8000 := by
            rw [← hPR.1.row.len]
            have h1 := behind_len k bs (s.f oa) rk re rbs rd
            rw [HBP.out] at h1
            have h2 := HLEN.out
            have h3 : bl.length ≤ 5 * (s.f oa).length + 10 := h1
            omega
          have CP := Lib.hid (put_any (L := L) (((H.out.since S5.out).but).more fun _ q => q.elim) (H.out.since S5.out).map HU.out hPR.1 hn5 (by have := HKS.out; omega) (H.out.since S5.out).bsz (obj_not_map H.out))
          clear hB5 hO5 hPR hLK u0 u1 u2 u3 v0 v1 v2 v3 v4 CB4 hn5
          go_wp2_with fail
          refine CP.out.mono ?_
          rintro e w6 ⟨rfl, fp', hI6, hT6, hG6⟩
          have HM6 : Hid (Moves w fp w6 fp') := ⟨(Turn.of_below S5.out).trans hT6.out fun b hb => Or.inl hb, fun b hb => by
            rcases hG6.out b hb with h1 | rfl | h1
            · exact Or.inl h1
            · exact HR5.out
            · exact Or.inr (Nat.le_trans S5.out.size h1)⟩
          clear hT6 hG6 CP t1
          go_wp2_with fail
          go_ret
          exact ⟨rfl, _, hI6, HM6⟩
end
end
end Go.Proofs.Ytfidamiomnohcaa
