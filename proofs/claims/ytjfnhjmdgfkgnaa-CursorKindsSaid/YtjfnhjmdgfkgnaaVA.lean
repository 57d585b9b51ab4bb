import Derived.Test.YtjfnhjmdgfkgnaaV3
import Derived.Test.YtjfnhjmdgfkgnaaH5
import Derived.Test.YtjfnhjmdgfkgnaaKit
import Derived.Deep.RegionHeld3
/- The cursor's moves: next, up, seek, open. -/
namespace Go.Proofs.Ytjfnhjmdgfkgnaa
open Go.RowKit Go.Proofs.Kit Go.Shelf

section
variable {lo r : Nat} {w : World} {bs : List Br} {lv : List Int} {X : Cs} {ob : Option Addr} {m cb : Nat} {ol : Option Addr} {q cl : Nat} {ok : Option Addr} {nk ck : Nat} {o0 : Option Addr} {n0 c0 : Nat} {o1 : Option Addr} {n1 c1 : Nat}
theorem cerr34 (X : Cs) : cerr 3 X = cerr 4 X := by simp [cerr]
theorem below_two (w : World) (o1 o2 : Obj) : Below w.heap.size w ((w.alloc o1).alloc o2) := ((Below.refl _ _).alloc (Nat.le_refl _) _).alloc (by simp) _
abbrev W8 (w : World) (A : Array Value) : World := (w.alloc (.cells A 111)).alloc (.cells (SC none 0 0 none 0 0 none 0 0 0 none 0 0 none 0 0 0) 111)
theorem w8_blk (w : World) (A : Array Value) : Blk (W8 w A) w.heap.size A 111 ∧ Blk (W8 w A) (w.heap.size + 1) (SC none 0 0 none 0 0 none 0 0 0 none 0 0 none 0 0 0) 111 := by
  refine ⟨(Blk.new _ _ _).alloc _, ?_⟩
  have := Blk.new (w.alloc (.cells A 111)) (SC none 0 0 none 0 0 none 0 0 0 none 0 0 none 0 0 0) 111
  simpa using this
theorem crow_st (h : StM lo r w bs lv X ob m cb ol q cl ok nk ck o0 n0 c0 o1 n1 c1) :
    Calls Try.prog 82 #[.agg (SC ob m cb ol q cl ok nk ck (X.d : Int) o0 n0 c0 o1 n1 c1 (X.s : Int))] w fun e w' => (∃ o n c, e = .returned (.slice o n c) ∧ Seg .u64 w (.slice o n c) X.row) ∧ Below w.heap.size w w' := by
  have hd2 := h.ck.d2
  rcases (by omega : X.d = 0 ∨ X.d = 1 ∨ X.d = 2) with e | e | e
  · have ed : ((X.d : Nat) : Int) = 0 := by omega
    rw [ed]
    refine (crow0b _ _ _ _ _ _ _ _ _ _ _ _ _ _ _ _ w).mono ?_
    rintro e1 w1 ⟨rfl, b1⟩
    exact ⟨⟨_, _, _, rfl, by simp [Cs.row, e, Seg.nil]⟩, b1⟩
  · have ed : ((X.d : Nat) : Int) = 1 := by omega
    rw [ed]
    refine (crow1b _ _ _ _ _ _ _ _ _ _ _ _ _ _ _ _ w).mono ?_
    rintro e1 w1 ⟨rfl, b1⟩
    exact ⟨⟨_, _, _, rfl, by simpa [Cs.row, e] using h.s0⟩, b1⟩
  · have ed : ((X.d : Nat) : Int) = 2 := by omega
    rw [ed]
    refine (crow2b _ _ _ _ _ _ _ _ _ _ _ _ _ _ _ _ w).mono ?_
    rintro e1 w1 ⟨rfl, b1⟩
    exact ⟨⟨_, _, _, rfl, by simpa [Cs.row, e] using h.s1⟩, b1⟩
theorem cwithin_st {o : Option Addr} {n c : Nat} {l : List Int} (hs : Seg .u64 w (.slice o n c) l) (hne : l ≠ []) (hi : Inc l) (hu : U64s l) (key : Int) (k0 : 0 ≤ key) (k1 : key < 18446744073709551616) :
    Calls Try.prog 133 #[.slice o n c, .int .u64 key] w fun e w' => ∃ o' n' c' l', e = .returned (.slice o' n' c') ∧ Seg .u64 w' (.slice o' n' c') l' ∧ Inc l' ∧ 0 < l'.length ∧ l'.length ≤ l.length ∧ sk (ge key) l' 0 = sk (ge key) l 0 ∧ l'.length = wl key l ∧ Below w.heap.size w w' := by
  have hl : 0 < l.length := List.length_pos_iff.2 hne
  have hn := segU_len hs
  obtain ⟨b, f, rfl, hc, hcm, hlt, hcell⟩ := segU_has hs (by omega)
  have h0 := hcell 0 hl
  rw [Nat.add_zero] at h0
  obtain ⟨far, hf⟩ : ∃ far, IntKind.u64.wrap (key - l[0]) = far := ⟨_, rfl⟩
  have hf2 := hf
  rw [IntKind.wrap_u64] at hf2
  have hhd : l.headD 0 = l[0] := by cases l with | nil => simp at hl | cons _ _ => rfl
  by_cases c1 : (n : Int) ≤ far
  · refine (cwithin_all b f n c key l[0] w (by omega) hc hcm h0 far hf c1).mono ?_
    rintro e w1 ⟨rfl, b1⟩
    exact ⟨_, _, _, l, rfl, hs.later b1, hi, hl, Nat.le_refl _, rfl, by unfold wl; rw [hhd, hf2, if_pos (by omega)], b1⟩
  · have hlt2 : (key - l[0]) % (18446744073709551616 : Int) < (l.length : Int) := by rw [hf2]; omega
    obtain ⟨k, hk, hkl, hkey⟩ := within_far hi hu k0 k1 hl hlt2
    refine (cwithin_part b f n c k key l[0] w hc hcm h0 (by rw [hf, ← hf2, hk]) (by omega)).mono ?_
    rintro e w1 ⟨rfl, b1⟩
    have ht : (l.take (k + 1)).length = k + 1 := by rw [List.length_take]; omega
    refine ⟨_, _, _, l.take (k + 1), rfl, ?_, hi.take _, by omega, by omega, sk_within hkl hkey, by unfold wl; rw [hhd, if_neg (by omega), ht]; omega, b1⟩
    have h3 : Seg .u64 w (.slice (some ⟨b, f, none⟩) (k + 1) (k + 1)) (l.take (k + 1)) :=
      ⟨by omega, .inr ⟨b, f, k + 1, by rw [ht], by omega, by omega, hlt, fun i hi => by rw [List.getElem_take]; exact hcell i (by omega)⟩⟩
    exact h3.later b1
set_option maxRecDepth 100000 in
set_option maxHeartbeats 4000000 in
theorem cnext_st (h : StM lo r w bs lv X ob m cb ol q cl ok nk ck o0 n0 c0 o1 n1 c1) (hr : r ≤ w.heap.size) (hs : X.s ≤ 90000000000) (key : Int) :
    Calls Try.prog 117 #[.agg (SC ob m cb ol q cl ok nk ck (X.d : Int) o0 n0 c0 o1 n1 c1 (X.s : Int)), .int .u64 key] w (Res8 lo r bs lv 3 key X w) := by
  obtain ⟨SD, hSD⟩ : ∃ SD : Int, SD = (X.d : Int) := ⟨_, rfl⟩
  obtain ⟨SS, hSS⟩ : ∃ SS : Int, SS = (X.s : Int) := ⟨_, rfl⟩
  have HM := Lib.hid (fun W (g : Below w.heap.size w W) => cmust_st (h.later g))
  have HO := Lib.hid (fun W (g : Below w.heap.size w W) hne hp => con_st (h.later g) hne 1 1 hp (by omega) hs)
  rw [← hSD, ← hSS] at HM HO ⊢
  clear hSD hSS
  go_enter Try.func117, Try.ntmps117
  go_wp2_with fail
  have b0 := below_two w (.cells (SC ob m cb ol q cl ok nk ck SD o0 n0 c0 o1 n1 c1 SS) 111) (.cells (SC none 0 0 none 0 0 none 0 0 0 none 0 0 none 0 0 0) 111)
  obtain ⟨z, y⟩ := w8_blk w (SC ob m cb ol q cl ok nk ck SD o0 n0 c0 o1 n1 c1 SS)
  refine (HM.out _ b0).mono ?_
  rintro e w1 ⟨b1, ⟨hc, hne, rfl⟩ | ⟨hc, rfl⟩⟩
  · have g1 := b0.trans (b1.mono b0.size)
    have z1 := z.later b1
    have y1 := y.later b1
    obtain ⟨a0, a1, a2, a3, a4, a5, a6⟩ := z1.all7
    have zl := z1.lt
    clear z y z1 b0 b1
    go_wp2_with fail
    refine (HO.out _ g1 hne (by have := List.length_pos_iff.2 hne; omega)).mono ?_
    rintro e w2 ⟨⟨v, rfl, ob', m', cb', ol', q', cl', ok', nk', ck', o0', n0', c0', o1', n1', c1', rfl, h2⟩, b2⟩
    have g2 := g1.trans (b2.mono g1.size)
    have y2 := y1.later b2
    have yl := y2.lt
    obtain ⟨f0, f1, f2, f3, f4, f5, f6⟩ : w2.frozen? ⟨w.heap.size + 1, 0, none⟩ = false ∧ w2.frozen? ⟨w.heap.size + 1, 1, none⟩ = false ∧ w2.frozen? ⟨w.heap.size + 1, 2, none⟩ = false ∧ w2.frozen? ⟨w.heap.size + 1, 3, none⟩ = false ∧ w2.frozen? ⟨w.heap.size + 1, 4, none⟩ = false ∧ w2.frozen? ⟨w.heap.size + 1, 5, none⟩ = false ∧ w2.frozen? ⟨w.heap.size + 1, 6, none⟩ = false := ⟨y2.frozen 0, y2.frozen 1, y2.frozen 2, y2.frozen 3, y2.frozen 4, y2.frozen 5, y2.frozen 6⟩
    obtain ⟨v0, v1, v2, v3, v4, v5, v6⟩ := y2.all7
    clear y1 b2 g1 a0 a1 a2 a3 a4 a5 a6
    go_wp2_with fail
    obtain ⟨r0, r1, r2, r3, r4, r5, r6⟩ := (y2.set7 (.slice ob' m' cb') (.slice ol' q' cl') (.slice ok' nk' ck') (.int .i64 (((X.on 1 1).d : Nat) : Int)) (.slice o0' n0' c0') (.slice o1' n1' c1') (.int .i64 (((X.on 1 1).s : Nat) : Int))).all7
    exact bodyPost_ret (v := .agg (SC ob' m' cb' ol' q' cl' ok' nk' ck' (((X.on 1 1).d : Nat) : Int) o0' n0' c0' o1' n1' c1' (((X.on 1 1).s : Nat) : Int))) (by simp [results, Try.results117, go_sem, r0, r1, r2, r3, r4, r5, r6]) rfl
      ⟨below_set7 g2 (Nat.le_add_right _ _) _ _ _ _ _ _ _, .inl ⟨hc, 0, _, fun h => by omega, rfl, ob', m', cb', ol', q', cl', ok', nk', ck', o0', n0', c0', o1', n1', c1', rfl, h2.lower (below_set7 (Below.refl w.heap.size w2) (Nat.le_add_right _ _) _ _ _ _ _ _ _) hr⟩⟩
  · exact bodyPost_panic rfl ⟨b0.trans (b1.mono b0.size), .inr ⟨hc, rfl⟩⟩
set_option maxRecDepth 100000 in
set_option maxHeartbeats 4000000 in
theorem cseek_st (h : StM lo r w bs lv X ob m cb ol q cl ok nk ck o0 n0 c0 o1 n1 c1) (hr : r ≤ w.heap.size) (hs : X.s ≤ 90000000000) (hu : U64s (keysB bs)) (hl : U64s lv) (key : Int) (k0 : 0 ≤ key) (k1 : key < 18446744073709551616) :
    Calls Try.prog 118 #[.agg (SC ob m cb ol q cl ok nk ck (X.d : Int) o0 n0 c0 o1 n1 c1 (X.s : Int)), .int .u64 key] w (Res8 lo r bs lv 4 key X w) := by
  obtain ⟨SD, hSD⟩ : ∃ SD : Int, SD = (X.d : Int) := ⟨_, rfl⟩
  obtain ⟨SS, hSS⟩ : ∃ SS : Int, SS = (X.s : Int) := ⟨_, rfl⟩
  have HM := Lib.hid (fun W (g : Below w.heap.size w W) => cmust_st (h.later g))
  have HO := Lib.hid (fun W (g : Below w.heap.size w W) hne p x hp hx => con_st (h.later g) hne p x hp hx hs)
  have HR := Lib.hid (fun W (g : Below w.heap.size w W) => crow_st (h.later g))
  have HI := Lib.hid (h.ck.inc h.ok)
  have HU := Lib.hid (h.ck.rng hu hl)
  have HN := Lib.hid (row_len h)
  rw [← hSD, ← hSS] at HM HO HR ⊢
  clear hSD hSS
  go_enter Try.func118, Try.ntmps118
  go_wp2_with fail
  have b0 := below_two w (.cells (SC ob m cb ol q cl ok nk ck SD o0 n0 c0 o1 n1 c1 SS) 111) (.cells (SC none 0 0 none 0 0 none 0 0 0 none 0 0 none 0 0 0) 111)
  obtain ⟨z, y⟩ := w8_blk w (SC ob m cb ol q cl ok nk ck SD o0 n0 c0 o1 n1 c1 SS)
  refine (HM.out _ b0).mono ?_
  rintro e w1 ⟨b1, ⟨hc, hne, rfl⟩ | ⟨hc, rfl⟩⟩
  · have g1 := b0.trans (b1.mono b0.size)
    have z1 := z.later b1
    have y1 := y.later b1
    obtain ⟨a0, a1, a2, a3, a4, a5, a6⟩ := z1.all7
    have zl := z1.lt
    clear z y b0 b1
    go_wp2_with fail
    refine (HR.out _ g1).mono ?_
    rintro e w3 ⟨⟨o3, n3, c3, rfl, s3⟩, b3⟩
    have g3 := g1.trans (b3.mono g1.size)
    have z3 := z1.later b3
    have y3 := y1.later b3
    have s3 := s3.later b3
    clear a0 a1 a2 a3 a4 a5 a6 zl z1 y1 b3 g1
    go_wp2_with fail
    refine (cwithin_st s3 hne HI.out HU.out key k0 k1).mono ?_
    rintro e w4 ⟨o4, n4, c4, l4, rfl, s4, i4, p4, q4, e4, el4, b4⟩
    have g4 := g3.trans (b4.mono g3.size)
    have z4 := z3.later b4
    have y4 := y3.later b4
    clear z3 y3 b4 g3 s3
    go_wp2_with fail
    refine (gSeek_ok _ l4 _ s4 (by have := HN.out; omega) i4 0 (Nat.zero_le _) key).mono ?_
    rintro e w5 ⟨qq, rfl, hk, b5⟩
    have g5 := g4.trans (b5.mono g4.size)
    have z5 := z4.later b5
    have y5 := y4.later b5
    obtain ⟨P, hP⟩ : ∃ P, P = sk (ge key) l4 0 := ⟨_, rfl⟩
    rw [← hP] at hk ⊢
    have hq := hk.2 p4
    have hlf := hk.1.2
    rw [el4] at hlf
    have HLF := Lib.hid hlf
    clear hlf el4
    have hPl : P ≤ l4.length := by rw [hP]; exact sk_le (Nat.zero_le _)
    have hqq : qq ≤ 100000 := by
      have := log2_lt63 (m := 1 + P - 0) (by have := HN.out; omega)
      omega
    obtain ⟨a0, a1, a2, a3, a4, a5, a6⟩ := z5.all7
    have zl := z5.lt
    have g1 := g5
    have y1 := y5
    have HP := Lib.hid hP
    have HE := Lib.hid e4
    have HQ := Lib.hid hq
    have HPL := Lib.hid (show P ≤ X.row.length by omega)
    have HQQ := Lib.hid hqq
    have HNE := Lib.hid hne
    clear z4 y4 z5 y5 b5 g4 hP e4 hq hk hPl hqq q4 p4 i4 s4 hne g5
    go_wp2_with fail
    refine (HO.out _ g1 HNE.out P qq HPL.out HQQ.out).mono ?_
    rintro e w2 ⟨⟨v, rfl, ob', m', cb', ol', q', cl', ok', nk', ck', o0', n0', c0', o1', n1', c1', rfl, h2⟩, b2⟩
    have eP : X.on P qq = cgo bs lv 4 key qq X := by rw [HP.out, HE.out]; rfl
    rw [eP] at h2 ⊢
    obtain ⟨X2, hX2⟩ : ∃ X2, X2 = cgo bs lv 4 key qq X := ⟨_, rfl⟩
    rw [← hX2] at h2 ⊢
    have HX2 := Lib.hid hX2
    clear eP hX2
    have g2 := g1.trans (b2.mono g1.size)
    have y2 := y1.later b2
    have yl := y2.lt
    obtain ⟨f0, f1, f2, f3, f4, f5, f6⟩ : w2.frozen? ⟨w.heap.size + 1, 0, none⟩ = false ∧ w2.frozen? ⟨w.heap.size + 1, 1, none⟩ = false ∧ w2.frozen? ⟨w.heap.size + 1, 2, none⟩ = false ∧ w2.frozen? ⟨w.heap.size + 1, 3, none⟩ = false ∧ w2.frozen? ⟨w.heap.size + 1, 4, none⟩ = false ∧ w2.frozen? ⟨w.heap.size + 1, 5, none⟩ = false ∧ w2.frozen? ⟨w.heap.size + 1, 6, none⟩ = false := ⟨y2.frozen 0, y2.frozen 1, y2.frozen 2, y2.frozen 3, y2.frozen 4, y2.frozen 5, y2.frozen 6⟩
    obtain ⟨v0, v1, v2, v3, v4, v5, v6⟩ := y2.all7
    clear y1 b2 g1 a0 a1 a2 a3 a4 a5 a6
    go_wp2_with fail
    obtain ⟨r0, r1, r2, r3, r4, r5, r6⟩ := (y2.set7 (.slice ob' m' cb') (.slice ol' q' cl') (.slice ok' nk' ck') (.int .i64 ((X2.d : Nat) : Int)) (.slice o0' n0' c0') (.slice o1' n1' c1') (.int .i64 ((X2.s : Nat) : Int))).all7
    exact bodyPost_ret (v := .agg (SC ob' m' cb' ol' q' cl' ok' nk' ck' ((X2.d : Nat) : Int) o0' n0' c0' o1' n1' c1' ((X2.s : Nat) : Int))) (by simp [results, Try.results118, go_sem, r0, r1, r2, r3, r4, r5, r6]) rfl
      ⟨below_set7 g2 (Nat.le_add_right _ _) _ _ _ _ _ _ _, .inl ⟨by rw [← cerr34]; exact hc, qq, _, fun _ => ⟨⟨HQ.out.1, by have hq := HQ.out; rw [HP.out, HE.out] at hq; simpa [cfar] using hq.2⟩, by have hq := HLF.out; rw [HP.out, HE.out] at hq; exact hq⟩, rfl, by rw [← HX2.out]; exact ⟨ob', m', cb', ol', q', cl', ok', nk', ck', o0', n0', c0', o1', n1', c1', rfl, h2.lower (below_set7 (Below.refl w.heap.size w2) (Nat.le_add_right _ _) _ _ _ _ _ _ _) hr⟩⟩⟩
  · exact bodyPost_panic rfl ⟨b0.trans (b1.mono b0.size), .inr ⟨by rw [← cerr34]; exact hc, by rw [← cerr34]⟩⟩
end
end Go.Proofs.Ytjfnhjmdgfkgnaa


/- The cursor's moves: up, open, a move of any kind. -/
namespace Go.Proofs.Ytjfnhjmdgfkgnaa
open Go.RowKit Go.Proofs.Kit Go.Shelf

section
variable (ob : Option Addr) (m cb : Nat) (ol : Option Addr) (q cl : Nat) (ok : Option Addr) (nk ck : Nat) (o0 : Option Addr) (n0 c0 : Nat) (o1 : Option Addr) (n1 c1 : Nat) (s : Nat) (key : Int) (w : World)
set_option maxRecDepth 100000 in
set_option maxHeartbeats 4000000 in
theorem cup0 : Calls Try.prog 116 #[.agg (SC ob m cb ol q cl ok nk ck 0 o0 n0 c0 o1 n1 c1 (s : Int)), .int .u64 key] w fun e w' => e = fault8 2 ∧ Below w.heap.size w w' := by
  go_enter Try.func116, Try.ntmps116
  go_wp2
  exact bodyPost_panic rfl ⟨rfl, by repeat' (first | exact Below.refl _ _ | refine Below.setCell ?_ (by simp <;> omega) _ | refine Below.alloc ?_ (by simp <;> omega) _ | apply Below.drew)⟩
set_option maxRecDepth 100000 in
set_option maxHeartbeats 4000000 in
theorem cup1 : Calls Try.prog 116 #[.agg (SC ob m cb ol q cl ok nk ck 1 o0 n0 c0 o1 n1 c1 (s : Int)), .int .u64 key] w fun e w' => e = .returned (.agg (SC ob m cb ol q cl ok nk ck 0 none 0 0 o1 n1 c1 (s : Int))) ∧ Below w.heap.size w w' := by
  go_enter Try.func116, Try.ntmps116
  go_wp2
  refine bodyPost_ret (v := .agg (SC ob m cb ol q cl ok nk ck 0 none 0 0 o1 n1 c1 (s : Int))) (by simp [results, Try.results116, go_sem]) rfl ⟨rfl, by repeat' (first | exact Below.refl _ _ | refine Below.setCell ?_ (by simp <;> omega) _ | refine Below.alloc ?_ (by simp <;> omega) _ | apply Below.drew)⟩
set_option maxRecDepth 100000 in
set_option maxHeartbeats 4000000 in
theorem cup2 : Calls Try.prog 116 #[.agg (SC ob m cb ol q cl ok nk ck 2 o0 n0 c0 o1 n1 c1 (s : Int)), .int .u64 key] w fun e w' => e = .returned (.agg (SC ob m cb ol q cl ok nk ck 1 o0 n0 c0 none 0 0 (s : Int))) ∧ Below w.heap.size w w' := by
  go_enter Try.func116, Try.ntmps116
  go_wp2
  refine bodyPost_ret (v := .agg (SC ob m cb ol q cl ok nk ck 1 o0 n0 c0 none 0 0 (s : Int))) (by simp [results, Try.results116, go_sem]) rfl ⟨rfl, by repeat' (first | exact Below.refl _ _ | refine Below.setCell ?_ (by simp <;> omega) _ | refine Below.alloc ?_ (by simp <;> omega) _ | apply Below.drew)⟩
set_option maxRecDepth 100000 in
set_option maxHeartbeats 4000000 in
theorem copen0 (hs : s ≤ 1000000000000) : Calls Try.prog 115 #[.agg (SC ob m cb ol q cl ok nk ck 0 o0 n0 c0 o1 n1 c1 (s : Int)), .int .u64 key] w fun e w' => e = .returned (.agg (SC ob m cb ol q cl ok nk ck 1 ok nk ck o1 n1 c1 ((s + 1 : Nat) : Int))) ∧ Below w.heap.size w w' := by
  go_enter Try.func115, Try.ntmps115
  go_wp2
  refine bodyPost_ret (v := .agg (SC ob m cb ol q cl ok nk ck 1 ok nk ck o1 n1 c1 ((s + 1 : Nat) : Int))) (by simp [results, Try.results115, go_sem]) rfl ⟨rfl, by repeat' (first | exact Below.refl _ _ | refine Below.setCell ?_ (by simp <;> omega) _ | refine Below.alloc ?_ (by simp <;> omega) _ | apply Below.drew)⟩
set_option maxRecDepth 100000 in
set_option maxHeartbeats 4000000 in
theorem copen2 : Calls Try.prog 115 #[.agg (SC ob m cb ol q cl ok nk ck 2 o0 n0 c0 o1 n1 c1 (s : Int)), .int .u64 key] w fun e w' => e = fault8 2 ∧ Below w.heap.size w w' := by
  go_enter Try.func115, Try.ntmps115
  go_wp2
  exact bodyPost_panic rfl ⟨rfl, by repeat' (first | exact Below.refl _ _ | refine Below.setCell ?_ (by simp <;> omega) _ | refine Below.alloc ?_ (by simp <;> omega) _ | apply Below.drew)⟩
set_option maxRecDepth 100000 in
set_option maxHeartbeats 4000000 in
theorem cleaves_no (hn : n0 = 0) : Calls Try.prog 129 #[.agg (SC ob m cb ol q cl ok nk ck 1 o0 n0 c0 o1 n1 c1 (s : Int))] w fun e w' => e = fault8 4 ∧ Below w.heap.size w w' := by
  have HN := Lib.hid hn
  clear hn
  go_enter Try.func129, Try.ntmps129
  go_wp2_with fail
  refine (cmust1_no ob m cb ol q cl ok nk ck o0 n0 c0 o1 n1 c1 (s : Int) _ HN.out).mono ?_
  rintro e w1 ⟨rfl, b1⟩
  have b0 : Below w.heap.size w (w.alloc (.cells (SC ob m cb ol q cl ok nk ck 1 o0 n0 c0 o1 n1 c1 (s : Int)) 111)) := (Below.refl _ _).alloc (Nat.le_refl _) _
  have g1 := b0.trans (b1.mono b0.size)
  clear b0 b1
  exact bodyPost_panic rfl ⟨rfl, g1⟩
set_option maxRecDepth 100000 in
set_option maxHeartbeats 4000000 in
theorem copen1_no (hn : n0 = 0) : Calls Try.prog 115 #[.agg (SC ob m cb ol q cl ok nk ck 1 o0 n0 c0 o1 n1 c1 (s : Int)), .int .u64 key] w fun e w' => e = fault8 4 ∧ Below w.heap.size w w' := by
  have HN := Lib.hid hn
  clear hn
  go_enter Try.func115, Try.ntmps115
  go_wp2_with fail
  refine (cleaves_no ob m cb ol q cl ok nk ck o0 n0 c0 o1 n1 c1 s _ HN.out).mono ?_
  rintro e w1 ⟨rfl, b1⟩
  have b0 := below_two w (.cells (SC ob m cb ol q cl ok nk ck 1 o0 n0 c0 o1 n1 c1 (s : Int)) 111) (.cells (SC none 0 0 none 0 0 none 0 0 0 none 0 0 none 0 0 0) 111)
  have g1 := b0.trans (b1.mono b0.size)
  clear b0 b1
  exact bodyPost_panic rfl ⟨rfl, g1⟩
set_option maxRecDepth 100000 in
set_option maxHeartbeats 4000000 in
theorem copen1 (o9 : Option Addr) (n9 c9 : Nat) (hs : s ≤ 1000000000000)
    (hl : ∀ W, Below w.heap.size w W → Calls Try.prog 129 #[.agg (SC ob m cb ol q cl ok nk ck 1 o0 n0 c0 o1 n1 c1 (s : Int))] W fun e w' => e = .returned (.slice o9 n9 c9) ∧ Below W.heap.size W w') :
    Calls Try.prog 115 #[.agg (SC ob m cb ol q cl ok nk ck 1 o0 n0 c0 o1 n1 c1 (s : Int)), .int .u64 key] w fun e w' => e = .returned (.agg (SC ob m cb ol q cl ok nk ck 2 o0 n0 c0 o9 n9 c9 ((s + 1 : Nat) : Int))) ∧ Below w.heap.size w w' := by
  have HL := Lib.hid hl
  clear hl
  go_enter Try.func115, Try.ntmps115
  go_wp2_with fail
  have b0 := below_two w (.cells (SC ob m cb ol q cl ok nk ck 1 o0 n0 c0 o1 n1 c1 (s : Int)) 111) (.cells (SC none 0 0 none 0 0 none 0 0 0 none 0 0 none 0 0 0) 111)
  obtain ⟨z, y⟩ := w8_blk w (SC ob m cb ol q cl ok nk ck 1 o0 n0 c0 o1 n1 c1 (s : Int))
  refine (HL.out _ b0).mono ?_
  rintro e w2 ⟨rfl, b2⟩
  have g2 := b0.trans (b2.mono b0.size)
  have z2 := z.later b2
  have y2 := y.later b2
  have zl := z2.lt
  have yl := y2.lt
  obtain ⟨a0, a1, a2, a3, a4, a5, a6⟩ := z2.all7
  obtain ⟨v0, v1, v2, v3, v4, v5, v6⟩ := y2.all7
  have e0 := z2.frozen 3
  have e1 := z2.frozen 5
  have e2 := z2.frozen 6
  obtain ⟨f0, f1, f2, f3, f4, f5, f6⟩ : w2.frozen? ⟨w.heap.size + 1, 0, none⟩ = false ∧ w2.frozen? ⟨w.heap.size + 1, 1, none⟩ = false ∧ w2.frozen? ⟨w.heap.size + 1, 2, none⟩ = false ∧ w2.frozen? ⟨w.heap.size + 1, 3, none⟩ = false ∧ w2.frozen? ⟨w.heap.size + 1, 4, none⟩ = false ∧ w2.frozen? ⟨w.heap.size + 1, 5, none⟩ = false ∧ w2.frozen? ⟨w.heap.size + 1, 6, none⟩ = false := ⟨y2.frozen 0, y2.frozen 1, y2.frozen 2, y2.frozen 3, y2.frozen 4, y2.frozen 5, y2.frozen 6⟩
  have Y2 := Lib.hid y2
  clear z y b0 b2 z2 y2
  go_wp2_with fail
  have y3 := ((Y2.out.other (p := ⟨w.heap.size, 5, none⟩) (by simp) (.slice o9 n9 c9)).other (p := ⟨w.heap.size, 3, none⟩) (by simp) (.int .i64 2)).other (p := ⟨w.heap.size, 6, none⟩) (by simp) (.int .i64 ((s : Int) + 1))
  obtain ⟨r0, r1, r2, r3, r4, r5, r6⟩ := (y3.set7 (.slice ob m cb) (.slice ol q cl) (.slice ok nk ck) (.int .i64 2) (.slice o0 n0 c0) (.slice o9 n9 c9) (.int .i64 ((s : Int) + 1))).all7
  exact bodyPost_ret (v := .agg (SC ob m cb ol q cl ok nk ck 2 o0 n0 c0 o9 n9 c9 ((s + 1 : Nat) : Int))) (by simp [results, Try.results115, go_sem, r0, r1, r2, r3, r4, r5, r6]) rfl ⟨rfl, below_set7 ((((g2.setCell (by simp) _).setCell (by simp) _).setCell (by simp) _)) (Nat.le_add_right _ _) _ _ _ _ _ _ _⟩
end
end Go.Proofs.Ytjfnhjmdgfkgnaa


/- The cursor's moves by their kinds. -/
namespace Go.Proofs.Ytjfnhjmdgfkgnaa
open Go.RowKit Go.Proofs.Kit Go.Shelf

section
variable {lo r : Nat} {w : World} {bs : List Br} {lv : List Int} {X : Cs} {ob : Option Addr} {m cb : Nat} {ol : Option Addr} {q cl : Nat} {ok : Option Addr} {nk ck : Nat} {o0 : Option Addr} {n0 c0 : Nat} {o1 : Option Addr} {n1 c1 : Nat}
theorem cup_st (h : StM lo r w bs lv X ob m cb ol q cl ok nk ck o0 n0 c0 o1 n1 c1) (key : Int) :
    Calls Try.prog 116 #[.agg (SC ob m cb ol q cl ok nk ck (X.d : Int) o0 n0 c0 o1 n1 c1 (X.s : Int)), .int .u64 key] w (Res8 lo r bs lv 2 key X w) := by
  have hd2 := h.ck.d2
  rcases (by omega : X.d = 0 ∨ X.d = 1 ∨ X.d = 2) with e | e | e
  · have ed : ((X.d : Nat) : Int) = 0 := by omega
    rw [ed]
    refine (cup0 ob m cb ol q cl ok nk ck o0 n0 c0 o1 n1 c1 X.s key w).mono ?_
    rintro e1 w1 ⟨rfl, b1⟩
    exact ⟨b1, .inr ⟨by simp [cerr, e], by simp [cerr, e]⟩⟩
  · have ed : ((X.d : Nat) : Int) = 1 := by omega
    rw [ed]
    refine (cup1 ob m cb ol q cl ok nk ck o0 n0 c0 o1 n1 c1 X.s key w).mono ?_
    rintro e1 w1 ⟨rfl, b1⟩
    have hc : cup X = ⟨0, [], [], X.s⟩ := by unfold cup; rw [if_pos e]
    have h' := h.later b1
    have hck := h.ck.up
    have h1 := h.ck.z1 (by omega)
    refine ⟨b1, .inl ⟨by simp [cerr, e], 0, _, fun h => by omega, rfl, ?_⟩⟩
    have eg : cgo bs lv 2 key 0 X = cup X := rfl
    rw [eg, hc]
    rw [hc] at hck
    exact ⟨ob, m, cb, ol, q, cl, ok, nk, ck, none, 0, 0, o1, n1, c1, rfl, { h' with s0 := Seg.nil _ _, s1 := by have := h'.s1; rw [h1] at this; exact this, i0 := In8.nil _ _, ck := hck, st := h.st }⟩
  · have ed : ((X.d : Nat) : Int) = 2 := by omega
    rw [ed]
    refine (cup2 ob m cb ol q cl ok nk ck o0 n0 c0 o1 n1 c1 X.s key w).mono ?_
    rintro e1 w1 ⟨rfl, b1⟩
    have hc : cup X = ⟨1, X.r0, [], X.s⟩ := by unfold cup; rw [if_neg (by omega)]
    have h' := h.later b1
    have hck := h.ck.up
    refine ⟨b1, .inl ⟨by simp [cerr, e], 0, _, fun h => by omega, rfl, ?_⟩⟩
    have eg : cgo bs lv 2 key 0 X = cup X := rfl
    rw [eg, hc]
    rw [hc] at hck
    exact ⟨ob, m, cb, ol, q, cl, ok, nk, ck, o0, n0, c0, none, 0, 0, rfl, { h' with s1 := Seg.nil _ _, i1 := In8.nil _ _, ck := hck, st := h.st }⟩
theorem copen_st (h : StM lo r w bs lv X ob m cb ol q cl ok nk ck o0 n0 c0 o1 n1 c1) (hs : X.s ≤ 90000000000) (key : Int) :
    Calls Try.prog 115 #[.agg (SC ob m cb ol q cl ok nk ck (X.d : Int) o0 n0 c0 o1 n1 c1 (X.s : Int)), .int .u64 key] w (Res8 lo r bs lv 1 key X w) := by
  have hd2 := h.ck.d2
  rcases (by omega : X.d = 0 ∨ X.d = 1 ∨ X.d = 2) with e | e | e
  · have ed : ((X.d : Nat) : Int) = 0 := by omega
    rw [ed]
    refine (copen0 ob m cb ol q cl ok nk ck o0 n0 c0 o1 n1 c1 X.s key w (by omega)).mono ?_
    rintro e1 w1 ⟨rfl, b1⟩
    have hc : copen bs lv X = ⟨1, keysB bs, [], X.s + 1⟩ := by unfold copen; rw [if_pos e]
    have he : cerr 1 X = 0 := by simp [cerr, e]
    have h' := h.later b1
    have hck := h.ck.open he
    have h1 := h.ck.z1 (by omega)
    refine ⟨b1, .inl ⟨he, 0, _, fun h => by omega, rfl, ?_⟩⟩
    have eg : cgo bs lv 1 key 0 X = copen bs lv X := rfl
    rw [eg, hc]
    rw [hc] at hck
    exact ⟨ob, m, cb, ol, q, cl, ok, nk, ck, ok, nk, ck, o1, n1, c1, rfl, { h' with s0 := h'.sK, s1 := by have := h'.s1; rw [h1] at this; exact this, i0 := h.iK, ck := hck, st := by simp only; omega }⟩
  · have ed : ((X.d : Nat) : Int) = 1 := by omega
    have er : X.row = X.r0 := by simp [Cs.row, e]
    rw [ed]
    have hn := segU_len h.s0
    by_cases hr : X.r0 = []
    · refine (copen1_no ob m cb ol q cl ok nk ck o0 n0 c0 o1 n1 c1 X.s key w (by rw [← hn, hr]; rfl)).mono ?_
      rintro e1 w1 ⟨rfl, b1⟩
      exact ⟨b1, .inr ⟨by simp [cerr, e, er, hr], by simp [cerr, e, er, hr]⟩⟩
    · have hlen := List.length_pos_iff.2 hr
      have hl0 := h.ck.len0
      obtain ⟨hi, eb⟩ := brAt_mem hr hl0
      have hkl := segU_len h.sK
      rw [keysB_len] at hkl
      obtain ⟨B, F, rfl, hml, hmc, _, hBw, hRC⟩ := h.sB.has hi
      obtain ⟨k0, k1, k2⟩ := hRC _ hi
      have hbr := h.ok.2.1.br hi
      rw [← eb] at k0 k1 k2 hbr
      obtain ⟨x, hx⟩ : ∃ x : Nat, (brAt bs X).2.1 = x := ⟨(brAt bs X).2.1.toNat, by omega⟩
      obtain ⟨y, hy⟩ : ∃ y : Nat, (brAt bs X).2.2 = y := ⟨(brAt bs X).2.2.toNat, by omega⟩
      rw [hx] at k1
      rw [hy] at k2
      rw [hx, hy] at hbr
      have hql := segU_len h.sL
      have h1 := h.hm
      have h2 := h.hq
      obtain ⟨bl, fl, rfl, hqc, hqm, hlw, hlc⟩ := segU_has h.sL (by omega)
      refine (copen1 (some ⟨B, F, none⟩) m cb (some ⟨bl, fl, none⟩) q cl ok nk ck o0 n0 c0 o1 n1 c1 X.s key w (some ⟨bl, fl + x, none⟩) (y - x) (y - x) (by omega)
        (fun W g => cleaves_any m cb q cl ok nk ck o0 n0 c0 o1 n1 c1 B F bl fl (bs.length - X.r0.length) x y (brAt bs X).1 (X.s : Int) W (Nat.lt_of_lt_of_le hBw g.size) (by omega) (by omega) (by omega) (by omega) (by omega)
          ((g.cell (p := ⟨B, F + (bs.length - X.r0.length) * 3, none⟩) hBw).trans k0) ((g.cell (p := ⟨B, F + (bs.length - X.r0.length) * 3 + 1, none⟩) hBw).trans k1) ((g.cell (p := ⟨B, F + (bs.length - X.r0.length) * 3 + 2, none⟩) hBw).trans k2) (by omega) (by omega) (by omega))).mono ?_
      rintro e1 w1 ⟨rfl, b1⟩
      have hc : copen bs lv X = ⟨2, X.r0, lvs lv (brAt bs X), X.s + 1⟩ := by unfold copen; rw [if_neg (by omega)]
      have he : cerr 1 X = 0 := by simp [cerr, e, er, hr]
      have h' := h.later b1
      have hck := h.ck.open he
      refine ⟨b1, .inl ⟨he, 0, _, fun h => by omega, rfl, ?_⟩⟩
      have eg : cgo bs lv 1 key 0 X = copen bs lv X := rfl
      rw [eg, hc]
      rw [hc] at hck
      have hlv : (lvs lv (brAt bs X)).length = y - x := by
        have := lvs_len (lv := lv) (b := brAt bs X) (by omega) (by omega) (by omega)
        omega
      have hsg : Seg .u64 w (.slice (some ⟨bl, fl + x, none⟩) (y - x) (y - x)) (lvs lv (brAt bs X)) := by
        refine ⟨by omega, .inr ⟨bl, fl + x, y - x, by rw [hlv], by omega, by omega, hlw, fun i hi => ?_⟩⟩
        have : (lvs lv (brAt bs X))[i] = lv[x + i]'(by omega) := by
          simp [lvs, hx]
        rw [this, Nat.add_assoc]
        exact hlc _ _
      exact ⟨_, m, cb, _, q, cl, ok, nk, ck, o0, n0, c0, _, y - x, y - x, rfl, { h' with s1 := hsg.later b1, i1 := fun a ha => (by injection ha with ha; subst ha; exact h.iL ⟨bl, fl, none⟩ rfl), ck := hck, st := by simp only; omega }⟩
  · have ed : ((X.d : Nat) : Int) = 2 := by omega
    rw [ed]
    refine (copen2 ob m cb ol q cl ok nk ck o0 n0 c0 o1 n1 c1 X.s key w).mono ?_
    rintro e1 w1 ⟨rfl, b1⟩
    exact ⟨b1, .inr ⟨by simp [cerr, e], by simp [cerr, e]⟩⟩
end
end Go.Proofs.Ytjfnhjmdgfkgnaa


/- In a region that draws its order: an operation that runs, and one that is not asked for, taken first. -/
namespace Go.Proofs.Kit
open Go.RowKit
section
variable {P : Program} {ops : Array Oper} {Q : Exit → Act → World → Prop} {S : World → Prop} {md : Region.Mode}
theorem takeOn (i : Nat) (oi : Oper) {v : Value} {fuel : Nat} {listed : Array Bool} {a : Act} {w : World} (hi : ops[i]? = some oi) (hs : Region.noSelect ops = true) (hf : Region.free md ops listed i = true)
    (hr : (Region.ready md ops listed).contains i = true) (hQ : ∀ c a w, Q (.panic c) (a.put oi.dst v) w → Q (.panic c) a w) (hw : Region.wanted oi (yielded ops a.tmps) = true) (hS : S w)
    (hy : ∀ w, S w → (execOp a.eval oi).run P w = .ok (.value v) w) (h : wpAnyH P md ops Q S fuel (listed.setIfInBounds i true) (a.put oi.dst v) w) : wpAnyH P md ops Q S (fuel + 1) listed a w :=
  wpAnyH_take hi hs hf hr hQ (.inl ⟨hw, hy⟩) hS h
theorem takeOff (i : Nat) (oi : Oper) {fuel : Nat} {listed : Array Bool} {a : Act} {w : World} (hi : ops[i]? = some oi) (hs : Region.noSelect ops = true) (hf : Region.free md ops listed i = true)
    (hr : (Region.ready md ops listed).contains i = true) (hQ : ∀ c a w, Q (.panic c) (a.put oi.dst undef) w → Q (.panic c) a w) (hw : Region.wanted oi (yielded ops a.tmps) = false) (hS : S w)
    (h : wpAnyH P md ops Q S fuel (listed.setIfInBounds i true) (a.put oi.dst undef) w) : wpAnyH P md ops Q S (fuel + 1) listed a w :=
  wpAnyH_take hi hs hf hr hQ (.inr ⟨hw, rfl⟩) hS h
/-- The last operation that comes up. -/
theorem lastOp {i : Nat} {o : Oper} {fuel : Nat} {listed : Array Bool} {a : Act} {w : World} (hr : Region.ready md ops listed = [i]) (ho : ops[i]? = some o) (hw : Region.wanted o (yielded ops a.tmps) = true)
    (hd : Region.ready md ops (listed.setIfInBounds i true) = []) (h : ∀ K' : Act → World → Prop, (∀ a w, S w → Q .normal a w → K' a w) → Oper.wp P o a w K' Q) : wpAnyH P md ops Q S (fuel + 1) listed a w :=
  wpAnyH_ready hr (by simp) (AllReadyH.cons ho (fun K hK => by rw [if_pos hw]; exact h K (fun a w hS hq => hK.out a w hS (fun _ => wpAnyH_done hd hq fuel))) AllReadyH.nil)
end
end Go.Proofs.Kit

