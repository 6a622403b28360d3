/- The landed Dirty. Conditions: an ideal that stands so; at most N addresses, where Sort of at most N words is known. -/
import Derived.Test.YtfidamiomnohcaaIdAw
set_option linter.unusedVariables false
set_option linter.unusedSimpArgs false
set_option maxRecDepth 20000
namespace Go.Proofs.Ytfidamiomnohcaa
open Go.RowKit

/-- Two rows of words of the call's own, apart from each other. -/
structure TwoW (W : World) (base : Nat) (A : Option Addr) (n c : Nat) (us : List Int) (A' : Option Addr) (n' c' : Nat) (us' : List Int) : Prop where
  one : wordK.Row W base A n c us
  two : wordK.Row W base A' n' c' us'
  apart : ∀ b ∈ blk A, b ∉ blk A'
section
variable {W W' : World} {base n c n' c' : Nat} {A A' : Option Addr} {us us' : List Int}
theorem TwoW.flip (h : TwoW W base A n c us A' n' c' us') : TwoW W base A' n' c' us' A n c us := ⟨h.two, h.one, fun b h1 h2 => h.apart b h2 h1⟩
theorem TwoW.since (h : TwoW W base A n c us A' n' c' us') (hb : Below W.heap.size W W') : TwoW W' base A n c us A' n' c' us' := ⟨h.one.since hb, h.two.since hb, h.apart⟩
theorem TwoW.keep (h : TwoW W base A n c us A' n' c' us') (e1 : ∀ b ∈ blk A, W'.heap[b]? = W.heap[b]?) (e2 : ∀ b ∈ blk A', W'.heap[b]? = W.heap[b]?) : TwoW W' base A n c us A' n' c' us' := ⟨Row.at_block h.one e1, Row.at_block h.two e2, h.apart⟩
theorem TwoW.app (h : TwoW W base A n c us A' n' c' us') (hb : base ≤ W.heap.size) (x : Int) (hx : U64 x) (hn : n + 1 ≤ 8000) :
    ∃ A2 c2 W2, (Builtin.append_ #[34, 34] 34 #[.slice A n c, .slice (some ⟨W.heap.size, 0, none⟩) 1 1]).run Try.prog (W.alloc (.cells #[.int .u64 x] 29)) = .ok (.slice A2 (n + 1) c2) W2 ∧ TwoW W2 base A2 (n + 1) c2 (us ++ [x]) A' n' c' us' ∧ Turn (fun b => b ∈ blk A) W W2 := by
  obtain ⟨A2, c2, W2, h1, h2, h3⟩ := RestK.append (K := wordK) (fp := fun b => b ∈ blk A') ⟨h.one, h.apart⟩ hb (fun b hb => Row.blk_lt h.two b hb) x hx #[.int .u64 x] rfl hn
  exact ⟨A2, c2, W2, h1, ⟨h2.row, Row.at_block h.two fun b hb => h3.block b (Row.blk_lt h.two b hb) fun q => h.apart b q hb, h2.safe⟩, h3⟩
theorem TwoW.sorted (h : TwoW W base A n c us A' n' c' us') {ys : List Int} (hr : wordK.Row W' base A n c ys) (ht : Turn (fun b => b ∈ blk A) W W') : TwoW W' base A n c ys A' n' c' us' :=
  ⟨hr, Row.at_block h.two fun b hb => ht.block b (Row.blk_lt h.two b hb) fun q => h.apart b q hb, h.apart⟩
end
/-- Of the addresses that are told, those have come already that are not left. -/
def Come (P : Int → Bool) (ks ls us : List Int) : Prop := (us ++ ls.filter P).Perm (ks.filter P)
theorem come_start (P : Int → Bool) (ks : List Int) : Come P ks ks [] := List.Perm.refl _
theorem Come.yes {P : Int → Bool} {ks ls us : List Int} (h : Come P ks ls us) {x : Int} (hx : x ∈ ls) (hp : P x = true) : Come P ks (ls.erase x) (us ++ [x]) := by
  refine List.Perm.trans ?_ h
  rw [List.append_assoc]
  refine List.Perm.append_left _ ?_
  have h1 := (List.perm_cons_erase hx).filter P
  rw [List.filter_cons_of_pos hp] at h1
  exact h1.symm
theorem Come.no {P : Int → Bool} {ks ls us : List Int} (h : Come P ks ls us) {x : Int} (hx : x ∈ ls) (hp : P x = false) : Come P ks (ls.erase x) us := by
  refine List.Perm.trans ?_ h
  refine List.Perm.append_left _ ?_
  have h1 := (List.perm_cons_erase hx).filter P
  rw [List.filter_cons_of_neg (by rw [hp]; decide)] at h1
  exact h1.symm
theorem Come.len {P : Int → Bool} {ks ls us : List Int} (h : Come P ks ls us) : us.length ≤ ks.length := by
  have h1 := List.Perm.length_eq h
  rw [List.length_append] at h1
  have h2 := List.length_filter_le P ks
  omega
theorem sorted_same {ys ks : List Int} (hp : ys.Perm ks) (hs : ys.Pairwise (· ≤ ·)) (hk : Ris ks) : ys = ks := by
  have hnd : ys.Nodup := (hp.nodup_iff).2 (hk.imp fun h => by omega)
  have hy : Ris ys := by
    refine (hs.and hnd).imp fun h => ?_
    have := h.1
    have := h.2
    omega
  exact ris_ext hy hk fun y => hp.mem_iff
theorem row_not_iter {w : World} {base n c r : Nat} {A : Option Addr} {us : List Int} {mp : Option Nat} {ks ls : List Int} {F : Int → Value} (h : wordK.Row w base A n c us) (hr : RangeI w mp r ks F ls) : r ∉ blk A := fun hb => by
  obtain ⟨cur, hc⟩ := Row.typed h r hb
  obtain ⟨ob, ho, hw⟩ := hr.iter
  rw [hc] at ho
  cases ho
  cases hw
def sureL (s : IS) : List Int := s.ks.filter fun x => isSure (s.f x)
def dirsL (s : IS) : List Int := s.ks.filter fun x => isDir (s.f x)
/-- What Dirty leaves. -/
def DirtyOut (w : World) (s : IS) (e : Ending) (w' : World) : Prop :=
  ∃ A n c A' n' c', e = .returned (.tuple #[.slice A n c, .slice A' n' c']) ∧ Hid (TwoW w' w.heap.size A n c (sureL s) A' n' c' (dirsL s)) ∧ Hid (Below w.heap.size w w')
section
variable {w w' : World} {base o r : Nat} {fp : Nat → Prop} {s : IS} {L : IdL} {mp : Option Nat} {ks ls : List Int}
set_option maxHeartbeats 8000000 in
theorem dirty_any {N : Nat} (hS : SortTo N) (hN : N ≤ 7000) (h : IdIn w base fp o s L) (hk : s.ks.length ≤ N) (hlen : ∀ a, (s.f a).length ≤ 400) : Calls Try.prog 19 #[.pointer (some ⟨o, 0, none⟩)] w (DirtyOut w s) := by
  have c0 := h.but.c0
  have c1 := h.but.c1
  obtain ⟨mp, HMP⟩ : ∃ m, Hid (L.mp = m) := ⟨_, rfl⟩
  obtain ⟨W2, hr2, hI2, hB2, hz2⟩ := h.range
  rw [HMP.out] at c1 hr2 hI2
  obtain ⟨r, HR⟩ : ∃ r, Hid (w.heap.size = r) := ⟨_, rfl⟩
  have HI2 := Lib.hid hI2
  rw [HR.out] at hr2
  have HI2 : Hid (RangeI W2 mp r s.ks (elemOf s L) s.ks) := by show RangeI _ _ _ _ _ _; rw [← HR.out]; exact HI2.out
  have S2 := Lib.hid hB2
  have H := Lib.hid h
  have HMB : Hid (∀ b, mp = some b → b < w.heap.size) := fun b hb => h.but.lt b (h.but.fm b (HMP.out.trans hb))
  have HKS := Lib.hid hk
  have HLE := Lib.hid hlen
  have HNN := Lib.hid hN
  have HSR := Lib.hid hS
  clear h hI2 hB2 hz2 hk hlen hN hS
  obtain ⟨P, HP⟩ : ∃ P : Int → Bool, Hid ((fun x => isSure (s.f x)) = P) := ⟨_, rfl⟩
  obtain ⟨Q, HQ⟩ : ∃ Q : Int → Bool, Hid ((fun x => isDir (s.f x)) = Q) := ⟨_, rfl⟩
  go_enter Try.func19, Try.ntmps19
  go_wp2_with fail
  try go_frame
  go_loopw [4, 5, 6, 7] (fun t4 t5 t6 t7 wr => ∃ (ls us vs : List Int) (A4 A5 : Option Addr) (n4 c4 n5 c5 : Nat), t4 = .slice A4 n4 c4 ∧ t5 = .slice A5 n5 c5 ∧ Hid (RangeI wr mp r s.ks (elemOf s L) ls) ∧ Hid (TwoW wr w.heap.size A4 n4 c4 us A5 n5 c5 vs) ∧ Hid (Come P s.ks ls us) ∧ Hid (Come Q s.ks ls vs) ∧ Hid (Below w.heap.size w wr)) (fun t4 t5 t6 t7 wr => leftI mp r wr)
  case atStart => exact ⟨s.ks, [], [], none, none, 0, 0, 0, 0, rfl, rfl, HI2, ⟨Kind.Row.none_, Kind.Row.none_, fun b hb => by cases hb⟩, come_start P s.ks, come_start Q s.ks, S2⟩
  case round =>
    clear HI2 S2
    obtain ⟨ls, us, vs, A4, A5, n4, c4, n5, c5, rfl, rfl, HI, HT, HC, HD, HB⟩ := hrel
    have HN4 : Hid (n4 ≤ N) := by have h1 := HT.out.one.len; have h2 := HC.out.len; have h3 := HKS.out; show _ ≤ _; omega
    have HN5 : Hid (n5 ≤ N) := by have h1 := HT.out.two.len; have h2 := HD.out.len; have h3 := HKS.out; show _ ≤ _; omega
    rcases HI.out.next with ⟨hls, hnx⟩ | ⟨x, w1, hx, hxk, ⟨zA, zn, zc, hF⟩, hnx, hen, hI1, hg1, hz1, hm1⟩
    · subst hls
      have C4 := Lib.hid (HSR.out A4 n4 c4 w.heap.size us wr HN4.out HB.out.size HT.out.one)
      go_wp2_with fail
      refine C4.out.mono ?_
      rintro e w4 ⟨rfl, ys, hPy, hSy, hRy, hT4⟩
      have HT4 := Lib.hid (HT.out.sorted hRy.out hT4.out)
      have HB4 : Hid (Below w.heap.size w w4) := Turn.chain HB.out hT4.out (fun b hb => Row.blk_ge HT.out.one b hb) HB.out.size
      have e4 : ys = sureL s := by
        refine sorted_same (hPy.out.trans ?_) hSy.out (ris_filter _ H.out.but.ok.ris)
        have h1 := HC.out
        unfold Come at h1
        rw [List.filter_nil, List.append_nil, ← HP.out] at h1
        exact h1
      have C5 := Lib.hid (HSR.out A5 n5 c5 w.heap.size vs w4 HN5.out HB4.out.size HT4.out.two)
      rw [e4] at HT4
      clear hPy hSy hRy hT4 C4 HT e4
      go_wp2_with fail
      refine C5.out.mono ?_
      rintro e w5 ⟨rfl, zs, hPy, hSy, hRy, hT5⟩
      have HT5 := Lib.hid ((HT4.out.flip).sorted hRy.out hT5.out)
      have HB5 : Hid (Below w.heap.size w w5) := Turn.chain HB4.out hT5.out (fun b hb => Row.blk_ge HT4.out.two b hb) HB4.out.size
      have e5 : zs = dirsL s := by
        refine sorted_same (hPy.out.trans ?_) hSy.out (ris_filter _ H.out.but.ok.ris)
        have h1 := HD.out
        unfold Come at h1
        rw [List.filter_nil, List.append_nil, ← HQ.out] at h1
        exact h1
      rw [e5] at HT5
      clear hPy hSy hRy hT5 C5 HT4 e5
      go_wp2_with fail
      go_ret2
      exact ⟨A4, n4, c4, A5, n5, c5, rfl, HT5.out.flip, HB5⟩
    · have HX := Lib.hid hx
      have HXU : Hid (U64 x) := H.out.but.ok.u64 x hxk
      have hF2 : elemOf s L x = .slice (some ⟨L.g x, 0, none⟩) (s.f x).length (L.c x) := rfl
      obtain ⟨n, HN0⟩ : ∃ q, Hid ((s.f x).length = q) := ⟨_, rfl⟩
      obtain ⟨c, HC0⟩ : ∃ q, Hid (L.c x = q) := ⟨_, rfl⟩
      obtain ⟨gx, HG0⟩ : ∃ q, Hid (L.g x = q) := ⟨_, rfl⟩
      rw [HN0.out, HC0.out, HG0.out] at hF2
      rw [hF2] at hnx hen
      have HR1 := Lib.hid hI1
      have HRW : Hid (w.heap.size ≤ r) := Nat.le_of_eq HR.out
      have HB1 : Hid (Below w.heap.size w w1) := HB.out.grown hg1 HB.out.size fun k e => by rw [← Option.some.inj e]; exact HRW.out
      have HT1 : Hid (TwoW w1 w.heap.size A4 n4 c4 us A5 n5 c5 vs) := HT.out.keep (fun b hb => hg1.block b (Row.blk_lt HT.out.one b hb) fun e => row_not_iter HT.out.one HI.out (by rw [← Option.some.inj e]; exact hb)) (fun b hb => hg1.block b (Row.blk_lt HT.out.two b hb) fun e => row_not_iter HT.out.two HI.out (by rw [← Option.some.inj e]; exact hb))
      have HL1 : Hid (∀ W, Below w.heap.size w W → thK.Lie W W.heap.size (some ⟨gx, 0, none⟩) n (s.f x)) := fun W hW => by
        have h1 := ((H.out.since hW).but.rows x hxk (fun q => q)).lie
        rw [HN0.out, HG0.out] at h1
        exact h1
      have HM1 : Hid (leftI mp r w1 < leftI mp r wr) := hm1
      have hle := HLE.out x
      rw [HN0.out] at hle
      have HNP : Hid (0 < n ∧ n ≤ 8000) := ⟨by rw [← HN0.out]; exact List.length_pos_iff.2 (H.out.but.ok.l x).ne, by omega⟩
      have HKP : Hid (∀ (W W' : World) (A : Option Addr) (n c : Nat) (us : List Int), Below w.heap.size w W → RangeI W mp r s.ks (elemOf s L) (ls.erase x) → wordK.Row W w.heap.size A n c us → Turn (fun b => b ∈ blk A) W W' → RangeI W' mp r s.ks (elemOf s L) (ls.erase x) ∧ leftI mp r W' = leftI mp r W ∧ Below w.heap.size w W') := fun W W' A n c us hb hr hrow ht => by
        have k1 : ∀ b, mp = some b → W'.heap[b]? = W.heap[b]? := fun b e => ht.block b (Nat.lt_of_lt_of_le (HMB.out b e) hb.size) fun q => by
          have h1 := Row.blk_ge hrow b q
          have h2 := HMB.out b e
          omega
        have k2 : W'.heap[r]? = W.heap[r]? := ht.block r hr.lt fun q => row_not_iter hrow hr q
        exact ⟨hr.keep k1 k2, leftI_keep k1 k2, Turn.chain hb ht (fun b q => Row.blk_ge hrow b q) hb.size⟩
      clear hxk hF hF2 hI1 hg1 hz1 hm1 HT HB hle
      have CS := Lib.hid (issure_any (some ⟨gx, 0, none⟩) n c (s.f x) w1 HNP.out.1 HNP.out.2 (HL1.out w1 HB1.out))
      cases hq : isSure (s.f x)
      · cases hd : isDir (s.f x)
        · have HPX : Hid (P x = false) := by show _ = _; rw [← HP.out]; exact hq
          rw [hq] at CS
          have HQX : Hid (Q x = false) := by show _ = _; rw [← HQ.out]; exact hd
          have HDX := Lib.hid hd
          clear hq hx hd
          obtain ⟨w6, HW6⟩ : ∃ q, Hid (w1 = q) := ⟨_, rfl⟩
          have HT6 : Hid (TwoW w6 w.heap.size A4 n4 c4 us A5 n5 c5 vs) := by rw [← HW6.out]; exact HT1
          have HR6 : Hid (RangeI w6 mp r s.ks (elemOf s L) (ls.erase x)) := by rw [← HW6.out]; exact HR1
          have HLF6 : Hid (leftI mp r w6 = leftI mp r w1) := by show _ = _; rw [HW6.out]
          have HB6 : Hid (Below w.heap.size w w6) := by rw [← HW6.out]; exact HB1
          have HC6 := Lib.hid (HC.out.no HX.out HPX.out)
          have CD := Lib.hid (isdir_any (some ⟨gx, 0, none⟩) n c (s.f x) w6 HNP.out.1 HNP.out.2 (HL1.out w6 HB6.out))
          rw [HDX.out] at CD
          have HD7 := Lib.hid (HD.out.no HX.out HQX.out)
          go_wp2_with fail
          refine CS.out.mono ?_
          rintro e wz ⟨rfl, rfl⟩
          go_wp2_with fail
          rw [HW6.out]
          refine CD.out.mono ?_
          rintro e wy ⟨rfl, rfl⟩
          go_wp2_with fail
          go_roundw
          case rel => exact ⟨ls.erase x, us, vs, A4, A5, n4, c4, n5, c5, by go_num, rfl, HR6, HT6, HC6, HD7, HB6⟩
          case measure => rw [HLF6.out]; exact HM1.out
        · have HPX : Hid (P x = false) := by show _ = _; rw [← HP.out]; exact hq
          rw [hq] at CS
          have HQX : Hid (Q x = true) := by show _ = _; rw [← HQ.out]; exact hd
          have HDX := Lib.hid hd
          clear hq hx hd
          obtain ⟨w6, HW6⟩ : ∃ q, Hid (w1 = q) := ⟨_, rfl⟩
          have HT6 : Hid (TwoW w6 w.heap.size A4 n4 c4 us A5 n5 c5 vs) := by rw [← HW6.out]; exact HT1
          have HR6 : Hid (RangeI w6 mp r s.ks (elemOf s L) (ls.erase x)) := by rw [← HW6.out]; exact HR1
          have HLF6 : Hid (leftI mp r w6 = leftI mp r w1) := by show _ = _; rw [HW6.out]
          have HB6 : Hid (Below w.heap.size w w6) := by rw [← HW6.out]; exact HB1
          have HC6 := Lib.hid (HC.out.no HX.out HPX.out)
          have CD := Lib.hid (isdir_any (some ⟨gx, 0, none⟩) n c (s.f x) w6 HNP.out.1 HNP.out.2 (HL1.out w6 HB6.out))
          rw [HDX.out] at CD
          obtain ⟨A7, c7, w7, hrun, hT7, hturn⟩ := (HT6.out.flip).app HB6.out.size x HXU.out (by have := HN5.out; have := HNN.out; omega)
          have R7 := Lib.hid hrun
          have HT7 := Lib.hid hT7.flip
          obtain ⟨q1, q2, q3⟩ := HKP.out w6 w7 A5 n5 c5 vs HB6.out HR6.out HT6.out.two hturn
          have HR7 := Lib.hid q1
          have HLF7 := Lib.hid q2
          have HB7 := Lib.hid q3
          have HD7 := Lib.hid (HD.out.yes HX.out HQX.out)
          clear hrun hT7 hturn q1 q2 q3
          go_wp2_with fail
          refine CS.out.mono ?_
          rintro e wz ⟨rfl, rfl⟩
          go_wp2_with fail
          rw [HW6.out]
          refine CD.out.mono ?_
          rintro e wy ⟨rfl, rfl⟩
          go_wp2_with (at_builtin; refine wpList_append_run rfl (.tmp 28) (.tmp 30) 34 rfl rfl rfl R7.out ?_)
          go_roundw
          case rel => exact ⟨ls.erase x, us, vs ++ [x], A4, A7, n4, c4, n5 + 1, c7, by go_num, by go_num, HR7, HT7, HC6, HD7, HB7⟩
          case measure => rw [HLF7.out, HLF6.out]; exact HM1.out
      · cases hd : isDir (s.f x)
        · have HPX : Hid (P x = true) := by show _ = _; rw [← HP.out]; exact hq
          rw [hq] at CS
          have HQX : Hid (Q x = false) := by show _ = _; rw [← HQ.out]; exact hd
          have HDX := Lib.hid hd
          clear hq hx hd
          obtain ⟨A6, c6, w6, hrun, hT6, hturn⟩ := HT1.out.app HB1.out.size x HXU.out (by have := HN4.out; have := HNN.out; omega)
          have R6 := Lib.hid hrun
          have HT6 := Lib.hid hT6
          obtain ⟨q1, q2, q3⟩ := HKP.out w1 w6 A4 n4 c4 us HB1.out HR1.out HT1.out.one hturn
          have HR6 := Lib.hid q1
          have HLF6 := Lib.hid q2
          have HB6 := Lib.hid q3
          have HC6 := Lib.hid (HC.out.yes HX.out HPX.out)
          clear hrun hT6 hturn q1 q2 q3
          have CD := Lib.hid (isdir_any (some ⟨gx, 0, none⟩) n c (s.f x) w6 HNP.out.1 HNP.out.2 (HL1.out w6 HB6.out))
          rw [HDX.out] at CD
          have HD7 := Lib.hid (HD.out.no HX.out HQX.out)
          go_wp2_with fail
          refine CS.out.mono ?_
          rintro e wz ⟨rfl, rfl⟩
          go_wp2_with (at_builtin; refine wpList_append_run rfl (.tmp 22) (.tmp 24) 34 rfl rfl rfl R6.out ?_)
          refine CD.out.mono ?_
          rintro e wy ⟨rfl, rfl⟩
          go_wp2_with fail
          go_roundw
          case rel => exact ⟨ls.erase x, (us ++ [x]), vs, A6, A5, (n4 + 1), c6, n5, c5, by go_num, rfl, HR6, HT6, HC6, HD7, HB6⟩
          case measure => rw [HLF6.out]; exact HM1.out
        · have HPX : Hid (P x = true) := by show _ = _; rw [← HP.out]; exact hq
          rw [hq] at CS
          have HQX : Hid (Q x = true) := by show _ = _; rw [← HQ.out]; exact hd
          have HDX := Lib.hid hd
          clear hq hx hd
          obtain ⟨A6, c6, w6, hrun, hT6, hturn⟩ := HT1.out.app HB1.out.size x HXU.out (by have := HN4.out; have := HNN.out; omega)
          have R6 := Lib.hid hrun
          have HT6 := Lib.hid hT6
          obtain ⟨q1, q2, q3⟩ := HKP.out w1 w6 A4 n4 c4 us HB1.out HR1.out HT1.out.one hturn
          have HR6 := Lib.hid q1
          have HLF6 := Lib.hid q2
          have HB6 := Lib.hid q3
          have HC6 := Lib.hid (HC.out.yes HX.out HPX.out)
          clear hrun hT6 hturn q1 q2 q3
          have CD := Lib.hid (isdir_any (some ⟨gx, 0, none⟩) n c (s.f x) w6 HNP.out.1 HNP.out.2 (HL1.out w6 HB6.out))
          rw [HDX.out] at CD
          obtain ⟨A7, c7, w7, hrun, hT7, hturn⟩ := (HT6.out.flip).app HB6.out.size x HXU.out (by have := HN5.out; have := HNN.out; omega)
          have R7 := Lib.hid hrun
          have HT7 := Lib.hid hT7.flip
          obtain ⟨q1, q2, q3⟩ := HKP.out w6 w7 A5 n5 c5 vs HB6.out HR6.out HT6.out.two hturn
          have HR7 := Lib.hid q1
          have HLF7 := Lib.hid q2
          have HB7 := Lib.hid q3
          have HD7 := Lib.hid (HD.out.yes HX.out HQX.out)
          clear hrun hT7 hturn q1 q2 q3
          go_wp2_with fail
          refine CS.out.mono ?_
          rintro e wz ⟨rfl, rfl⟩
          go_wp2_with (at_builtin; refine wpList_append_run rfl (.tmp 22) (.tmp 24) 34 rfl rfl rfl R6.out ?_)
          refine CD.out.mono ?_
          rintro e wy ⟨rfl, rfl⟩
          go_wp2_with (at_builtin; refine wpList_append_run rfl (.tmp 28) (.tmp 30) 34 rfl rfl rfl R7.out ?_)
          go_roundw
          case rel => exact ⟨ls.erase x, (us ++ [x]), vs ++ [x], A6, A7, (n4 + 1), c6, n5 + 1, c7, by go_num, by go_num, HR7, HT7, HC6, HD7, HB7⟩
          case measure => rw [HLF7.out, HLF6.out]; exact HM1.out
end
end Go.Proofs.Ytfidamiomnohcaa
