import Derived.Test.YtifhfeldjfcbfaaM20
import Derived.Test.YtifhfeldjfcbfaaME
import Derived.Test.YtifhfeldjfcbfaaM23
import Derived.Test.YtifhfeldjfcbfaaMP0
/- MergeParts' walk. -/
namespace Go.Proofs.Kit
open Go.RowKit
/-- Numbers as an argument. -/
def ArgN (w : World) (o : Option Addr) (c : Nat) (l : List Int) : Prop := (o = none ∧ l = [] ∧ c = 0) ∨ ∃ a, o = some a ∧ ∀ i (h : i < l.length), w.cell? (a.add i) = some (.int .i64 l[i])
theorem ArgN.later {w w' : World} {o : Option Addr} {c : Nat} {l : List Int} (h : ArgN w o c l) (hb : Below w.heap.size w w') : ArgN w' o c l := by
  rcases h with h | ⟨a, h1, h2⟩
  · exact .inl h
  · exact .inr ⟨a, h1, fun i hi => by
      have := h2 i hi
      exact (hb.cell (World.block_lt_of_cell? _ _ this)).trans this⟩
theorem SegP.upto {w : World} {o : Option Addr} {n c k : Nat} {l : List Pr} (h : SegP w (.slice o n c) l) (hk : k ≤ n) : SegP w (.slice o k c) (l.take k) := by
  have hl62 := h.1
  rcases h.2 with ⟨h1, rfl⟩ | ⟨b, f, cap, h1, h2, h3, h4, h5⟩
  · injection h1 with e1 e2 e3
    subst e1 e2 e3
    obtain rfl : k = 0 := by omega
    exact SegP.nil w
  · injection h1 with e1 e2 e3
    subst e1 e2 e3
    have hl : (l.take k).length = k := by simp; omega
    refine ⟨by rw [hl]; omega, .inr ⟨b, f, c, by rw [hl], by omega, h3, h4, fun i hi => ?_⟩⟩
    have := h5 i (by omega)
    simpa using this
theorem SegP.nums {w : World} {o : Option Addr} {n c : Nat} {l : List Pr} (h : SegP w (.slice o n c) l) : n = l.length ∧ n ≤ c := by
  rcases h.2 with ⟨h1, rfl⟩ | ⟨b, f, cap, h1, h2, h3, h4, h5⟩
  · injection h1 with e1 e2 e3
    subst e1 e2 e3
    exact ⟨rfl, Nat.le_refl _⟩
  · injection h1 with e1 e2 e3
    subst e1 e2 e3
    exact ⟨rfl, h2⟩
/-- What the region that asks for the beginning wants to know. -/
structure MRX (w : World) (x z : Ti) (t u : Tr) (m : Nat) : Prop where
  l1 : x.an ≤ z.an
  l2 : x.bn ≤ z.bn
  l3 : z.an ≤ z.ac
  l4 : z.bn ≤ z.bc
  l5 : x.an ≤ 100000
  l6 : x.bn ≤ 100000
  sum : x.an + x.bn = m
  p1 : SegP w (.slice x.ao x.an x.ac) (outT false t u m).1
  p2 : SegP w (.slice x.bo x.bn x.bc) (outT false t u m).2
  q1 : SegP w (.slice z.ao x.an z.ac) (outT false t u m).1
  q2 : SegP w (.slice z.bo x.bn z.bc) (outT false t u m).2
theorem mr_facts (w : World) (x z : Ti) (t u : Tr) (m q : Nat) (hmq : m ≤ q) (hm : m ≤ (allP t u).length) (h4 : (allP t u).length ≤ 4000) (h1 : TR w x (outT false t u m)) (h2 : TR w z (outT false t u q)) : MRX w x z t u m := by
  obtain ⟨a, d, ea, ed⟩ := outT_more false t u hmq
  obtain ⟨xo, xn, xc, xp, xq, xr⟩ := x
  obtain ⟨zo, zn, zc, zp, zq, zr⟩ := z
  have p1 : SegP w (.slice xo xn xc) _ := h1.a
  have p2 : SegP w (.slice xp xq xr) _ := h1.b
  have q1 : SegP w (.slice zo zn zc) _ := h2.a
  have q2 : SegP w (.slice zp zq zr) _ := h2.b
  have n1 := p1.nums
  have n2 := p2.nums
  have n3 := q1.nums
  have n4 := q2.nums
  have k1 := outT_len false t u m
  have hs := toT_both t u ((allP t u).take m)
  have e1 := congrArg List.length ea
  have e2 := congrArg List.length ed
  rw [List.length_append] at e1 e2
  have hsum : (outT false t u m).1.length + (outT false t u m).2.length = m := by
    have : (outT false t u m).1.length + (outT false t u m).2.length = ((allP t u).take m).length := hs
    rw [this, List.length_take]; omega
  have f1 := q1.upto (k := xn) (by omega)
  have f2 := q2.upto (k := xq) (by omega)
  rw [ea, n1.1, List.take_left] at f1
  rw [ed, n2.1, List.take_left] at f2
  rw [← n1.1] at f1
  rw [← n2.1] at f2
  exact ⟨by show xn ≤ zn; omega, by show xq ≤ zq; omega, n3.2, n4.2, by show xn ≤ _; omega, by show xq ≤ _; omega, by show xn + xq = m; omega, p1, p2, f1, f2⟩
theorem out_run {t u : Tr} (h : oneT t ∧ oneT u) (k : Nat) : Run (outT false t u k).1 ∧ Run (outT false t u k).2 := by
  have hr := (allP_uni h.1 h.2).2
  exact ⟨hr.sub (List.filter_sublist.trans (List.take_sublist _ _)), hr.sub (List.filter_sublist.trans (List.take_sublist _ _))⟩
end Go.Proofs.Kit
namespace Go.Proofs.Ytifhfeldjfcbfaa
open Go.RowKit Go.Proofs.Kit Go.Shelf
/-- What holds between two rounds of MergeParts' loop. -/
structure PRI (w : World) (b9 b12 : Nat) (t u : Tr) (q : Nat) (x8 y8 z8 : Ti) (k : Nat) (W : World) : Prop where
  m : ∃ x y z : Ti, Blk W b9 (mgV x y z false (k : Int)) 26 ∧ OwnM 55 0 W x y z t u (outT false t u k)
  a : Blk W b12 (mgV x8 y8 z8 false (q : Int)) 26
  z : OwnD 55 0 W z8 (outT false t u q)
  low : Below w.heap.size w W
  g9 : w.heap.size ≤ b9
  ne : b12 ≠ b9
theorem PRI.later {w W W' : World} {b9 b12 q k : Nat} {t u : Tr} {x8 y8 z8 : Ti} (h : PRI w b9 b12 t u q x8 y8 z8 k W) (hb : Below W.heap.size W W') : PRI w b9 b12 t u q x8 y8 z8 k W' := by
  obtain ⟨x, y, z, h1, h2⟩ := h.m
  exact ⟨⟨x, y, z, h1.later hb, h2.later hb⟩, h.a.later hb, h.z.later hb, below_later h.low hb, h.g9, h.ne⟩
set_option maxRecDepth 100000 in
set_option maxHeartbeats 16000000 in
theorem parts_true (x y : Ti) (T U : Tr) (no : Option Addr) (nn nc : Nat) (nl : List Int) (w : World) (hx : ArgQ w x T) (hy : ArgQ w y U) (hnl : nl.length = nn) (hnc : nn ≤ nc) (hnm : nc ≤ 9223372036854775807) (hna : ArgN w no nc nl) :
    Calls Try.prog 6 #[.agg #[x.av, x.bv], .agg #[y.av, y.bv], .slice no nn nc] w fun e w' => e = .returned (.bool true) ∧ Below w.heap.size w w' := by
  have HX := Lib.hid (fun W (hb : Below w.heap.size w W) => ownT12_any x T W (hx.later hb).1 (hx.later hb).2)
  have HY := Lib.hid (fun W (hb : Below w.heap.size w W) => ownT12_any y U W (hy.later hb).1 (hy.later hb).2)
  obtain ⟨t, ht⟩ : ∃ t, t = few24 T := ⟨_, rfl⟩
  obtain ⟨u, hu⟩ : ∃ u, u = few24 U := ⟨_, rfl⟩
  have HSH := Lib.hid (show Sh t u by rw [ht, hu]; exact few24_sh T U)
  have HNA := Lib.hid (And.intro hnl hna)
  have HT := Lib.hid ht
  have HU := Lib.hid hu
  clear hx hy ht hu hnl hna
  go_enter Try.func6, Try.ntmps6
  go_wp2_with fail
  refine (wakes12_true _).mono ?_
  rintro e w1 ⟨rfl, b1⟩
  have gA := ((Gr.alloc w (.cells #[x.av, x.bv] 24)).trans (Gr.alloc _ (.cells #[y.av, y.bv] 24))).below
  have kx := ((Blk.new w #[x.av, x.bv] 24).alloc (.cells #[y.av, y.bv] 24)).later b1
  have ky := (Blk.new (w.alloc (.cells #[x.av, x.bv] 24)) #[y.av, y.bv] 24).later b1
  simp only [World.size_alloc] at ky
  have L1 := Lib.hid (below_later gA b1)
  clear gA b1
  go_wp2_with fail
  refine MQ_region w1 w.heap.size (w.heap.size + 1) x y T U no nn nc w1 _ rfl (Below.refl _ _) kx ky kx.lt ky.lt (Lib.hid (fun W hb => HX.out W (below_later L1.out hb))) (Lib.hid (fun W hb => HY.out W (below_later L1.out hb))) ?_
  rintro L t7 t8 t29 t30 t31 t32 fo fn fc fp fq fr ko kn kc kp kq kr b7 b8 X hall h
  have e7 := (h.h4 (hall 4 (by decide))).1
  have e8 := (h.h5 (hall 5 (by decide))).1
  have K7 := Lib.hid (h.k7 (hall 6 (by decide)))
  have K8 := Lib.hid (h.k8 (hall 7 (by decide)))
  have HA := Lib.hid (show TR X _ t by rw [HT.out]; exact (h.h1 (hall 1 (by decide))).2.tr)
  have HB := Lib.hid (show TR X _ u by rw [HU.out]; exact (h.h3 (hall 3 (by decide))).2.tr)
  have LX := Lib.hid (below_later L1.out h.low)
  subst e7 e8
  have a0 := K7.out.cell 0
  have a1 := K7.out.cell 1
  have la := K7.out.lt
  have c0 := K8.out.cell 0
  have c1 := K8.out.cell 1
  have lc := K8.out.lt
  simp only [List.getElem?_toArray, List.getElem?_cons_zero, List.getElem?_cons_succ] at a0 a1 c0 c1
  have HBG := Lib.hid (beginM_any _ _ t u false X HA.out HB.out HSH.out)
  simp only [Ti.av, Ti.bv] at HBG
  clear h hall kx ky L1 HX HY HT HU
  go_wp2_with fail
  refine HBG.out.mono ?_
  rintro e w3 (⟨⟨hg, x6, y6, z6, rfl, hm6⟩, b6⟩ | ⟨⟨hno, rfl⟩, b6⟩)
  · have LX3 := Lib.hid (below_later LX.out b6)
    obtain ⟨xo, xn, xc, xp, xq, xr⟩ := x6
    obtain ⟨yo, yn, yc, yp, yq, yr⟩ := y6
    obtain ⟨zo, zn, zc, zp, zq, zr⟩ := z6
    have HM6 := Lib.hid hm6
    have K7 := Lib.hid (K7.out.later b6)
    have K8 := Lib.hid (K8.out.later b6)
    have HA := Lib.hid (HA.out.later b6)
    have HB := Lib.hid (HB.out.later b6)
    have HG := Lib.hid hg
    simp only [mgV, Ti.av, Ti.bv]
    clear hg hm6 b6 LX HBG a0 a1 la c0 c1 lc
    go_wp2_with fail
    have LX3b := Lib.hid (show w.heap.size ≤ w3.heap.size from LX3.out.size)
    have gA := (Gr.alloc w3 (.cells #[.slice xo xn xc, .slice xp xq xr, .slice yo yn yc, .slice yp yq yr, .bool false, .int .i64 0, .slice zo zn zc, .slice zp zq zr] 26)).below
    have K9 := Lib.hid (Blk.new w3 #[.slice xo xn xc, .slice xp xq xr, .slice yo yn yc, .slice yp yq yr, .bool false, .int .i64 0, .slice zo zn zc, .slice zp zq zr] 26)
    have hL := leftS_any ⟨xo, xn, xc, xp, xq, xr⟩ ⟨yo, yn, yc, yp, yq, yr⟩ ⟨zo, zn, zc, zp, zq, zr⟩ t u ([], []) false 0 _ (HM6.out.x.tr.later gA) (HM6.out.y.tr.later gA) (HM6.out.z.tr.later gA) HSH.out
    rw [left_zero false HG.out] at hL
    simp only [mgV, Ti.av, Ti.bv] at hL
    obtain ⟨q, hq⟩ : ∃ q, q = (allP t u).length := ⟨_, rfl⟩
    have HQ := Lib.hid hq
    rw [← hq] at hL
    refine hL.mono ?_
    rintro e w4 ⟨rfl, b4⟩
    have b34 := below_later gA b4
    have LX4 := Lib.hid (below_later LX3.out b34)
    have K7 := Lib.hid (K7.out.later b34)
    have K8 := Lib.hid (K8.out.later b34)
    have K9 := Lib.hid (K9.out.later b4)
    have HA := Lib.hid (HA.out.later b34)
    have HB := Lib.hid (HB.out.later b34)
    have HM6 := Lib.hid (HM6.out.later b34)
    obtain ⟨⟨m0, m1, m2, m3, m4, m5, m6, m7⟩, lm⟩ := K9.out.all8
    clear gA hL hq b4 b34 LX3
    go_wp2_with fail
    have hS := stepM_ok ⟨xo, xn, xc, xp, xq, xr⟩ ⟨yo, yn, yc, yp, yq, yr⟩ ⟨zo, zn, zc, zp, zq, zr⟩ t u ([], []) false 0 w4 HM6.out.x.tr HM6.out.y.tr HM6.out.z.tr HSH.out (q : Int) (ok_zero false HG.out) (by omega) q (by rw [left_zero false HG.out, ← HQ.out]; omega)
    simp only [mgV, Ti.av, Ti.bv] at hS
    refine hS.mono ?_
    rintro e w5 ⟨x8, y8, z8, rfl, hm8, b5⟩
    have LX5 := Lib.hid (below_later LX4.out b5)
    have K7 := Lib.hid (K7.out.later b5)
    have K8 := Lib.hid (K8.out.later b5)
    have HA := Lib.hid (HA.out.later b5)
    have HB := Lib.hid (HB.out.later b5)
    obtain ⟨ao, an, ac, ap, aq, ar⟩ := x8
    obtain ⟨bo, bn, bc, bp, bq, br⟩ := y8
    obtain ⟨co, cn, cc, cp, cq, cr⟩ := z8
    rw [show (0 : Int).toNat + q = q by simp] at hm8
    have HM8 := Lib.hid hm8
    simp only [Int.zero_add]
    have K9 := Lib.hid (K9.out.later b5)
    have HM6 := Lib.hid (HM6.out.later b5)
    clear hS hm8 b5 LX4 m0 m1 m2 m3 m4 m5 m6 m7 lm K7 K8 HA HB
    go_wp2_with fail
    have gB := (Gr.alloc w5 (.cells #[.slice ao an ac, .slice ap aq ar, .slice bo bn bc, .slice bp bq br, .bool false, .int .i64 (q : Int), .slice co cn cc, .slice cp cq cr] 26)).below
    have K12 := Blk.new w5 #[.slice ao an ac, .slice ap aq ar, .slice bo bn bc, .slice bp bq br, .bool false, .int .i64 (q : Int), .slice co cn cc, .slice cp cq cr] 26
    have I0 : PRI w w3.heap.size w5.heap.size t u q ⟨ao, an, ac, ap, aq, ar⟩ ⟨bo, bn, bc, bp, bq, br⟩ ⟨co, cn, cc, cp, cq, cr⟩ 0 (w5.alloc (.cells #[.slice ao an ac, .slice ap aq ar, .slice bo bn bc, .slice bp bq br, .bool false, .int .i64 (q : Int), .slice co cn cc, .slice cp cq cr] 26)) := by
      refine ⟨⟨⟨xo, xn, xc, xp, xq, xr⟩, ⟨yo, yn, yc, yp, yq, yr⟩, ⟨zo, zn, zc, zp, zq, zr⟩, K9.out.later gB, ?_⟩, K12, (HM8.out.z.mono (Nat.zero_le _)).later gB, below_later LX5.out gB, ?_, ?_⟩
      · rw [outT_zero]; exact (HM6.out.mono (Nat.zero_le _)).later gB
      · exact LX3b.out
      · have := K9.out.lt; omega
    have HI0 := Lib.hid I0
    have hqq : q ≤ (allP t u).length := by rw [HQ.out]; exact Nat.le_refl _
    have hlen := fun k => outT_len false t u k
    have h4 := allP_len (m := 1000) ⟨HSH.out.1.1, HSH.out.1.2, HSH.out.2.1, HSH.out.2.2⟩
    have HLEN := Lib.hid hlen
    have HRN := Lib.hid (out_run HG.out)
    have hq4 : q ≤ 4000 := by omega
    clear I0 K12 gB K9 HM6 HM8 hlen h4 hqq
    go_loopw [14, 54] (fun s14 s54 wr => ∃ i k : Nat, i ≤ nn ∧ k ≤ q ∧ s54 = .int .i64 (i : Int) ∧ s14 = .int .i64 (k : Int) ∧ Hid (PRI w w3.heap.size w5.heap.size t u q ⟨ao, an, ac, ap, aq, ar⟩ ⟨bo, bn, bc, bp, bq, br⟩ ⟨co, cn, cc, cp, cq, cr⟩ k wr)) (fun _ s54 _ => nn - (intOf s54).toNat)
    case atStart => exact ⟨0, 0, Nat.zero_le _, Nat.zero_le _, rfl, rfl, HI0⟩
    case round =>
      obtain ⟨i, k, hi, hk, rfl, rfl, HP⟩ := hrel
      by_cases hlt : i < nn
      · have hil : i < nl.length := by have := HNA.out.1; omega
        have hcell : ∃ a0, no = some a0 ∧ wr.cell? (a0.add i) = some (.int .i64 nl[i]) := by
          rcases HNA.out.2.later HP.out.low with ⟨_, h2, _⟩ | ⟨a0, h1, h2⟩
          · rw [h2] at hil; simp at hil
          · exact ⟨a0, h1, h2 i hil⟩
        obtain ⟨a0, rfl, dn⟩ := hcell
        obtain ⟨nv, hnv⟩ : ∃ nv, nv = nl[i] := ⟨_, rfl⟩
        rw [← hnv] at dn
        obtain ⟨⟨xo', xn', xc', xp', xq', xr'⟩, ⟨yo', yn', yc', yp', yq', yr'⟩, ⟨zo', zn', zc', zp', zq', zr'⟩, kb, hm⟩ := HP.out.m
        have HM := Lib.hid hm
        obtain ⟨⟨m0, m1, m2, m3, m4, m5, m6, m7⟩, lm⟩ := kb.all8
        clear hnv hil hm
        simp only [mgV, Ti.av, Ti.bv] at kb m0 m1 m2 m3 m4 m5 m6 m7
        by_cases h10 : i = 10
        · have t10 : ((i : Int) == 10) = true := by simp; omega
          clear h10
          go_wp2_with fail
          refine (check_any _ _ wr HM.out.z.tr.a).mono ?_
          rintro e w7 ⟨rfl, g7⟩
          have HZ7 := Lib.hid (SegP.later HM.out.z.tr.b g7.below)
          have L7 := Lib.hid (below_later HP.out.low g7.below)
          have kb7 := kb.later g7.below
          obtain ⟨⟨m0, m1, m2, m3, m4, m5, m6, m7⟩, lm⟩ := kb7.all8
          have hr := HRN.out k
          rw [ckP_yes ⟨hr.1, by have := HLEN.out k; have := HQ.out; omega⟩]
          clear hr g7 kb kb7
          go_wp2_with fail
          refine (check_any _ _ w7 HZ7.out).mono ?_
          rintro e w8 ⟨rfl, g8⟩
          have L8 := Lib.hid (below_later L7.out g8.below)
          have hr := HRN.out k
          rw [ckP_yes ⟨hr.2, by have := HLEN.out k; have := HQ.out; omega⟩]
          clear hr g8 m0 m1 m2 m3 m4 m5 m6 m7 lm
          go_wp2_with fail
          go_ret
          exact ⟨rfl, L8.out⟩
        · have t10 : ((i : Int) == 10) = false := by simp; omega
          obtain ⟨v, hv8, hv⟩ : ∃ v : Nat, v ≤ 8 ∧ wrap64 ((IntKind.u64.wrap nv).tmod 9) = (v : Int) := by
            have h0 : 0 ≤ IntKind.u64.wrap nv := by rw [IntKind.wrap_u64]; omega
            rw [Int.tmod_eq_emod_of_nonneg h0]
            have h1 := Int.emod_nonneg (IntKind.u64.wrap nv) (show (9 : Int) ≠ 0 by omega)
            have h2 := Int.emod_lt_of_pos (IntKind.u64.wrap nv) (show (0 : Int) < 9 by omega)
            refine ⟨(IntKind.u64.wrap nv % 9).toNat, by omega, ?_⟩
            generalize IntKind.u64.wrap nv % 9 = z at h1 h2 ⊢
            unfold wrap64
            omega
          go_wp2_with fail
          rw [hv]
          clear hv dn
          obtain ⟨j, hj⟩ : ∃ j, j = min v (q - k) := ⟨_, rfl⟩
          have HJ := Lib.hid hj
          have hkq : k ≤ (allP t u).length := by rw [← HQ.out]; exact hk
          have hS := stepM_ok ⟨xo', xn', xc', xp', xq', xr'⟩ ⟨yo', yn', yc', yp', yq', yr'⟩ ⟨zo', zn', zc', zp', zq', zr'⟩ t u (outT false t u k) false (k : Int) wr HM.out.x.tr HM.out.y.tr HM.out.z.tr HSH.out (v : Int) (ok_at false HG.out hkq) (by omega) j (by rw [left_at false HG.out hkq, ← HQ.out]; omega)
          simp only [mgV, Ti.av, Ti.bv] at hS
          refine hS.mono ?_
          rintro e w7 ⟨⟨eo, en, ec, ep, eq, er⟩, ⟨fo', fn', fc', fp', fq', fr'⟩, ⟨go, gn, gc, gp, gq, gr⟩, rfl, hm7, b7⟩
          obtain ⟨m, hm⟩ : ∃ m, m = k + j := ⟨_, rfl⟩
          have HMM := Lib.hid hm
          rw [show (k : Int).toNat + j = m by simp [hm]] at hm7
          have HM7 := Lib.hid hm7
          have HP7 := Lib.hid (HP.out.later b7)
          have KB7 := Lib.hid (kb.later b7)
          have HM := Lib.hid (HM.out.later b7)
          rw [show (k : Int) + (j : Int) = (m : Int) by omega]
          have g1 : ¬ (v : Int) < (j : Int) := by omega
          have g2 : min (v : Int) ((q : Int) - (k : Int)) = (j : Int) := by omega
          clear hS hm7 b7 kb m0 m1 m2 m3 m4 m5 m6 m7 lm hj hm
          go_wp2_with fail
          have gC := (Gr.alloc w7 (.cells #[.slice eo en ec, .slice ep eq er, .slice fo' fn' fc', .slice fp' fq' fr', .bool false, .int .i64 (m : Int), .slice go gn gc, .slice gp gq gr] 26)).below
          have K17 := Lib.hid (Blk.new w7 #[.slice eo en ec, .slice ep eq er, .slice fo' fn' fc', .slice fp' fq' fr', .bool false, .int .i64 (m : Int), .slice go gn gc, .slice gp gq gr] 26)
          have hmk : m = k + j := HMM.out
          have hjv : j = min v (q - k) := HJ.out
          have hmq : m ≤ q := by omega
          have hmQ : m ≤ (allP t u).length := by rw [← HQ.out]; exact hmq
          have hlm := HLEN.out m
          have hC := checkM_any ⟨eo, en, ec, ep, eq, er⟩ ⟨fo', fn', fc', fp', fq', fr'⟩ ⟨go, gn, gc, gp, gq, gr⟩ t u (outT false t u m) false (m : Int) _ (HM7.out.x.tr.later gC) (HM7.out.y.tr.later gC) (HM7.out.z.tr.later gC) HSH.out true (by simp [ok_at false HG.out hmQ])
          have HLF := Lib.hid (fun W (hb : Below w7.heap.size w7 W) => leftS_any ⟨eo, en, ec, ep, eq, er⟩ ⟨fo', fn', fc', fp', fq', fr'⟩ ⟨go, gn, gc, gp, gq, gr⟩ t u (outT false t u m) false (m : Int) W (HM7.out.x.tr.later hb) (HM7.out.y.tr.later hb) (HM7.out.z.tr.later hb) HSH.out)
          rw [left_at false HG.out hmQ, ← HQ.out] at HLF
          simp only [mgV, Ti.av, Ti.bv] at hC HLF
          refine hC.mono ?_
          rintro e w8 ⟨rfl, b8'⟩
          have b78 := below_later gC b8'
          have HB78 := Lib.hid b78
          have HP7 := Lib.hid (HP7.out.later b78)
          have KB7 := Lib.hid (KB7.out.later b78)
          have HM := Lib.hid (HM.out.later b78)
          have HM7 := Lib.hid (HM7.out.later b78)
          have K17 := Lib.hid (K17.out.later b8')
          obtain ⟨⟨m0, m1, m2, m3, m4, m5, m6, m7⟩, lm⟩ := K17.out.all8
          have g3 : (q : Int) - (m : Int) = (q : Int) - (k : Int) - (j : Int) := by omega
          rw [g3] at HLF
          clear gC hC b8' b78 g1 g2 hlm hmQ hmk g3 hjv
          go_wp2_with fail
          refine (HLF.out _ HB78.out).mono ?_
          rintro e w9 ⟨rfl, b9⟩
          have b79 := below_later HB78.out b9
          have HP7 := Lib.hid (HP7.out.later b9)
          have KB7 := Lib.hid (KB7.out.later b9)
          have HM := Lib.hid (HM.out.later b9)
          have HM7 := Lib.hid (HM7.out.later b9)
          have K17 := Lib.hid (K17.out.later b9)
          have K12 := Lib.hid HP7.out.a
          obtain ⟨⟨m0, m1, m2, m3, m4, m5, m6, m7⟩, lm⟩ := K17.out.all8
          have k12 := K12.out
          simp only [mgV, Ti.av, Ti.bv] at k12
          obtain ⟨⟨n0, n1, n2, n3, n4, n5, n6, n7⟩, ln⟩ := k12.all8
          clear HLF HB78 b9 b79 k12
          go_wp2_with fail
          go_cut [20, 21] from 103 to 106 (fun s20 s21 wx => ∃ b20 b21, s20 = .pointer (some ⟨b20, 0, none⟩) ∧ s21 = .pointer (some ⟨b21, 0, none⟩) ∧ Hid (Blk wx b20 #[.slice go gn gc, .slice gp gq gr] 24 ∧ Blk wx b21 #[.slice co cn cc, .slice cp cq cr] 24 ∧ Below w9.heap.size w9 wx))
          case first =>
            go_region
            · go_wp2_with fail
              go_meet
              have k1 := (Blk.new w9 #[.slice go gn gc, .slice gp gq gr] 24).alloc (.cells #[.slice co cn cc, .slice cp cq cr] 24)
              have k2 := Blk.new (w9.alloc (.cells #[.slice go gn gc, .slice gp gq gr] 24)) #[.slice co cn cc, .slice cp cq cr] 24
              simp only [World.size_alloc] at k2
              exact ⟨_, _, rfl, rfl, Lib.hid ⟨k1, k2, (((Gr.alloc w9 _).trans (Gr.alloc _ _)).trans (Gr.drew _)).below⟩⟩
            · go_wp2_with fail
              go_meet
              have k1 := (Blk.new w9 #[.slice co cn cc, .slice cp cq cr] 24).alloc (.cells #[.slice go gn gc, .slice gp gq gr] 24)
              have k2 := Blk.new (w9.alloc (.cells #[.slice co cn cc, .slice cp cq cr] 24)) #[.slice go gn gc, .slice gp gq gr] 24
              simp only [World.size_alloc] at k2
              exact ⟨_, _, rfl, rfl, Lib.hid ⟨k2, k1, (((Gr.alloc w9 _).trans (Gr.alloc _ _)).trans (Gr.drew _)).below⟩⟩
          case rest =>
            obtain ⟨wd, hwd⟩ : ∃ wd, wd = wc := ⟨_, rfl⟩
            subst hwd
            obtain ⟨b20, b21, rfl, rfl, HZ⟩ := hcut
            have b9 := HZ.out.2.2
            have HP8 := Lib.hid (HP7.out.later b9)
            have KB8 := Lib.hid (KB7.out.later b9)
            have HM := Lib.hid (HM.out.later b9)
            have HM7 := Lib.hid (HM7.out.later b9)
            have K17 := Lib.hid (K17.out.later b9)
            have HNX := Lib.hid (mr_facts wd ⟨go, gn, gc, gp, gq, gr⟩ ⟨co, cn, cc, cp, cq, cr⟩ t u m q hmq (by rw [← HQ.out]; exact hmq) (by rw [← HQ.out]; exact hq4) HM7.out.z.tr HP8.out.z.tr)
            clear b9 HP7 KB7 K12 m0 m1 m2 m3 m4 m5 m6 m7 lm n0 n1 n2 n3 n4 n5 n6 n7 ln
            have HE : Hid (∀ (v1 v2 : Value) (l : List Pr) (X : World), SegP X v1 l → SegP X v2 l → Calls Try.prog 27 #[v1, v2] X fun e w' => e = .returned (.bool true) ∧ Gr X w') := Lib.hid (fun v1 v2 l X h1 h2 => by
              have := equalP_seg v1 v2 l l X h1 h2
              simpa using this)
            go_wp2_with fail
            refine MR_region wd b20 b21 w7.heap.size m go gn gc gp gq gr co cn cc cp cq cr _ _ _ _ _ _ _ _ _ _ _ _ _ _ _ _ _ _ _ _ _ _ _ _ _ _ _ _ _ _ _ _ _ _ _ _ _ _ _ _ _ _ _ _ _ _ _ _ _ _ _ _ _ _ _ _ _ _ _ _ _ _ _ _ _ _ _ _ _ _ _ _ _ _ _ _ _ _ _ _ _ _ _ _ _ _ _ _ _ _ _ _ _ _ _ _ _ _ _ _ _ _ _ _ _ _ _ _ _ _ _ _ _ _ _ _ _ _ _ _ _ _ _ _ _ _ _ _ _ _ _ _ _ _ _ _ _ _ _ _ _ _ _ _ _ _ _ _ _ _ _ _ _ _ _ _ _ _ _ _ _ _ _ _ _ _ _ _ _ _ _ _ _ _ _ _ _ _ _ _ _ _ _ _ _ _ _ _ _ _ _ _ _ _ _ _ _ _ _ _ _ _ _ _ _ _ _ _ _ _ _ _ _ _ _ _ _ _ _ _ _ _ _ wd _ rfl (Below.refl _ _) HZ.out.1 HZ.out.2.1 K17.out HNX.out.l1 HNX.out.l2 HNX.out.l3 HNX.out.l4 HNX.out.l5 HNX.out.l6 HNX.out.sum _ _ HE (Lib.hid (fun W hb => HNX.out.p1.later hb)) (Lib.hid (fun W hb => HNX.out.p2.later hb)) (Lib.hid (fun W hb => HNX.out.q1.later hb)) (Lib.hid (fun W hb => HNX.out.q2.later hb)) ?_
            rintro L t107 t108 t109 t110 t111 t112 t113 t114 t115 t116 t117 t118 t119 t120 t121 t122 t123 t124 t125 t126 t127 t128 t129 t130 t131 t132 t133 t134 t135 t136 t137 t138 t139 t140 t141 t142 t143 t144 t145 t146 t147 t148 t149 t150 t151 t152 t153 t154 t155 t156 t157 t158 X8 hall h
            obtain rfl := h.h51 (hall 51 (by decide))
            have bX := h.low
            have HP7 := Lib.hid (HP8.out.later bX)
            have KB7 := Lib.hid (KB8.out.later bX)
            have HM := Lib.hid (HM.out.later bX)
            have HM7 := Lib.hid (HM7.out.later bX)
            have K17 := Lib.hid (K17.out.later bX)
            obtain ⟨⟨m0, m1, m2, m3, m4, m5, m6, m7⟩, lm⟩ := KB7.out.all8
            clear h hall bX HP8 KB8 HNX HE HZ
            go_wp2_with fail
            obtain ⟨a, ha⟩ : ∃ a, a = min (v / 2) (q - k) := ⟨_, rfl⟩
            have hjv : j = min v (q - k) := HJ.out
            have hmk : m = k + j := HMM.out
            have hkQ : k ≤ (allP t u).length := by rw [← HQ.out]; exact hk
            have hS := stepM_ok ⟨xo', xn', xc', xp', xq', xr'⟩ ⟨yo', yn', yc', yp', yq', yr'⟩ ⟨zo', zn', zc', zp', zq', zr'⟩ t u (outT false t u k) false (k : Int) X8 HM.out.x.tr HM.out.y.tr HM.out.z.tr HSH.out ((v : Int) / 2) (ok_at false HG.out hkQ) (by omega) a (by rw [left_at false HG.out hkQ, ← HQ.out]; omega)
            simp only [mgV, Ti.av, Ti.bv] at hS
            refine hS.mono ?_
            rintro e w10 ⟨⟨ho, hn, hc, hp, hq', hr⟩, ⟨io, in', ic, ip, iq, ir⟩, ⟨jo, jn, jc, jp, jq, jr⟩, rfl, hm10, b10⟩
            obtain ⟨p, hpk⟩ : ∃ p, p = k + a := ⟨_, rfl⟩
            rw [show (k : Int).toNat + a = p by simp [hpk]] at hm10
            rw [show (k : Int) + (a : Int) = (p : Int) by omega]
            have HM10 := Lib.hid hm10
            have HP7 := Lib.hid (HP7.out.later b10)
            have KB7 := Lib.hid (KB7.out.later b10)
            have HM7 := Lib.hid (HM7.out.later b10)
            have K17 := Lib.hid (K17.out.later b10)
            have HPP := Lib.hid (And.intro ha hpk)
            have HJM := Lib.hid (And.intro hjv hmk)
            clear hS hm10 b10 HM m0 m1 m2 m3 m4 m5 m6 m7 lm ha hpk hjv hmk hkQ
            go_wp2_with fail
            have gD := (Gr.alloc w10 (.cells #[.slice ho hn hc, .slice hp hq' hr, .slice io in' ic, .slice ip iq ir, .bool false, .int .i64 (p : Int), .slice jo jn jc, .slice jp jq jr] 26)).below
            obtain ⟨b, hb⟩ : ∃ b, b = min (v - v / 2) (q - p) := ⟨_, rfl⟩
            obtain ⟨ha, hpk⟩ := HPP.out
            obtain ⟨hjv, hmk⟩ := HJM.out
            have hpq : p ≤ q := by omega
            have hpQ : p ≤ (allP t u).length := by rw [← HQ.out]; exact hpq
            have hS := stepM_ok ⟨ho, hn, hc, hp, hq', hr⟩ ⟨io, in', ic, ip, iq, ir⟩ ⟨jo, jn, jc, jp, jq, jr⟩ t u (outT false t u p) false (p : Int) _ (HM10.out.x.tr.later gD) (HM10.out.y.tr.later gD) (HM10.out.z.tr.later gD) HSH.out ((v : Int) - (v : Int) / 2) (ok_at false HG.out hpQ) (by omega) b (by rw [left_at false HG.out hpQ, ← HQ.out]; omega)
            simp only [mgV, Ti.av, Ti.bv] at hS
            refine hS.mono ?_
            rintro e w11 ⟨⟨ho1, hn1, hc1, hp1, hq1, hr1⟩, ⟨io1, in1, ic1, ip1, iq1, ir1⟩, ⟨jo1, jn1, jc1, jp1, jq1, jr1⟩, rfl, hm11, b11⟩
            rw [show (p : Int).toNat + b = m by rw [Int.toNat_natCast]; omega] at hm11
            rw [show (p : Int) + (b : Int) = (m : Int) by omega]
            have HM11 := Lib.hid hm11
            have b1011 := below_later gD b11
            have HP7 := Lib.hid (HP7.out.later b1011)
            have KB7 := Lib.hid (KB7.out.later b1011)
            have HM7 := Lib.hid (HM7.out.later b1011)
            have K17 := Lib.hid (K17.out.later b1011)
            have hab : (a : Int) + (b : Int) = (j : Int) := by omega
            have HAB := Lib.hid hab
            obtain ⟨⟨m0, m1, m2, m3, m4, m5, m6, m7⟩, lm⟩ := K17.out.all8
            have ha8 : a ≤ 8 := by omega
            have hb8 : b ≤ 8 := by omega
            clear hS hm11 b11 gD b1011 hb ha hpk hjv hmk hpq hpQ HM10
            go_wp2_with fail
            have gE := (Gr.alloc w11 (.cells #[.slice ho1 hn1 hc1, .slice hp1 hq1 hr1, .slice io1 in1 ic1, .slice ip1 iq1 ir1, .bool false, .int .i64 (m : Int), .slice jo1 jn1 jc1, .slice jp1 jq1 jr1] 26)).below
            have hSM := sameM_any ⟨ho1, hn1, hc1, hp1, hq1, hr1⟩ ⟨io1, in1, ic1, ip1, iq1, ir1⟩ ⟨jo1, jn1, jc1, jp1, jq1, jr1⟩ ⟨eo, en, ec, ep, eq, er⟩ ⟨fo', fn', fc', fp', fq', fr'⟩ ⟨go, gn, gc, gp, gq, gr⟩ t u (outT false t u m) t u (outT false t u m) false (m : Int) _ (HM11.out.x.tr.later gE) (HM11.out.y.tr.later gE) (HM11.out.z.tr.later gE) (HM7.out.x.tr.later gE) (HM7.out.y.tr.later gE) (HM7.out.z.tr.later gE) true (by simp)
            simp only [mgV, Ti.av, Ti.bv] at hSM
            refine hSM.mono ?_
            rintro e w12 ⟨rfl, b12'⟩
            have b1112 := below_later gE b12'
            have HP7 := Lib.hid (HP7.out.later b1112)
            have KB7 := Lib.hid (KB7.out.later b1112)
            have HM7 := Lib.hid (HM7.out.later b1112)
            have K17 := Lib.hid (K17.out.later b1112)
            obtain ⟨⟨m0, m1, m2, m3, m4, m5, m6, m7⟩, lm⟩ := K17.out.all8
            obtain ⟨⟨n0, n1, n2, n3, n4, n5, n6, n7⟩, ln⟩ := KB7.out.all8
            obtain ⟨z0, z1, z2, z3, z4, z5, z6, z7⟩ := KB7.out.frz8
            have hjq : j ≤ 8 := by omega
            clear hSM b12' gE b1112 HM11
            go_wp2_with fail
            have hmk : m = k + j := HMM.out
            refine ⟨⟨i + 1, m, hlt, hmq, by simp, by rw [hmk]; simp, Lib.hid ⟨⟨⟨eo, en, ec, ep, eq, er⟩, ⟨fo', fn', fc', fp', fq', fr'⟩, ⟨go, gn, gc, gp, gq, gr⟩, ?_, ?_⟩, ?_, ?_, ?_, HP7.out.g9, HP7.out.ne⟩⟩, ?_⟩
            · exact set8_blk _ _ _ _ _ _ _ _ KB7.out
            · exact (HM7.out.mono (Nat.zero_le _)).set8 KB7.out (by decide) _ _ _ _ _ _ _ _
            · exact set8_other HP7.out.ne HP7.out.a
            · exact HP7.out.z.set8 KB7.out (by decide) _ _ _ _ _ _ _ _
            · exact HP7.out.low.trans (set8_below _ _ _ _ _ _ _ _ HP7.out.g9)
            · simp only [intOf]; omega
      · obtain ⟨⟨xo', xn', xc', xp', xq', xr'⟩, ⟨yo', yn', yc', yp', yq', yr'⟩, ⟨zo', zn', zc', zp', zq', zr'⟩, kb, hm⟩ := HP.out.m
        have HM := Lib.hid hm
        simp only [mgV, Ti.av, Ti.bv] at kb
        obtain ⟨⟨m0, m1, m2, m3, m4, m5, m6, m7⟩, lm⟩ := kb.all8
        clear hm
        go_wp2_with fail
        refine (check_any _ _ wr HM.out.z.tr.a).mono ?_
        rintro e w7 ⟨rfl, g7⟩
        have HZ7 := Lib.hid (SegP.later HM.out.z.tr.b g7.below)
        have L7 := Lib.hid (below_later HP.out.low g7.below)
        have kb7 := kb.later g7.below
        obtain ⟨⟨m0, m1, m2, m3, m4, m5, m6, m7⟩, lm⟩ := kb7.all8
        have hr := HRN.out k
        rw [ckP_yes ⟨hr.1, by have := HLEN.out k; have := HQ.out; omega⟩]
        clear hr g7 kb kb7
        go_wp2_with fail
        refine (check_any _ _ w7 HZ7.out).mono ?_
        rintro e w8 ⟨rfl, g8⟩
        have L8 := Lib.hid (below_later L7.out g8.below)
        have hr := HRN.out k
        rw [ckP_yes ⟨hr.2, by have := HLEN.out k; have := HQ.out; omega⟩]
        clear hr g8 m0 m1 m2 m3 m4 m5 m6 m7 lm
        go_wp2_with fail
        go_ret
        exact ⟨rfl, L8.out⟩
  · go_wp2_with fail
    go_ret
    exact ⟨rfl, below_later (below_later LX.out b6) (Gr.alloc _ _).below⟩
end Go.Proofs.Ytifhfeldjfcbfaa


/- MergeParts: however the steps are parted, it comes to the same: for all two tiers and all numbers the law returns true. No condition. -/
namespace Go.Proofs.Ytifhfeldjfcbfaa
open Go.ChangeShapes Go.WideShapes Go.ChangeAt Go.RowKit Go.Joins Go.Proofs.Kit

set_option maxRecDepth 100000 in
/-- An argument that is a slice of ints. -/
theorem open_argN {H : Type} {enc : TypeId × Value → H} {W : World} {r : Reach} {b0 : Nat} {v : Value} {d : DataW H} {p : List MemPlace}
    (hv : Value.okWide Try.prog W r b0 38 v) (h : DataW.Trod enc Try.prog W 0 (fun _ => true) true 38 v d p) :
    ∃ (o : Option Addr) (n c : Nat) (l : List Int), v = .slice o n c ∧ l.length = n ∧ n ≤ c ∧ c ≤ 9223372036854775807 ∧ ArgN W o c l := by
  obtain ⟨o, len, cap, rfl⟩ := okWide_slice Try.underlying38 hv
  obtain ⟨fuel, hf⟩ := h
  rcases open_ints Try.underlying38 Try.underlying3 (by kernel_rfl) hf with ⟨h0, _⟩ | ⟨a, len', cap', zs, h0, _, hlc, hcm, hz, _, hcell, hwf⟩
  · simp [Value.cells] at h0
    obtain ⟨rfl, rfl, rfl⟩ := h0
    exact ⟨none, 0, 0, [], rfl, rfl, by omega, by omega, .inl ⟨rfl, rfl, rfl⟩⟩
  · simp [Value.cells] at h0
    obtain ⟨rfl, rfl, rfl⟩ := h0
    simp only [if_true] at hz
    unfold maxLen at hcm
    refine ⟨some a, len, cap, zs.take len, rfl, by simp; omega, hlc, by omega, .inr ⟨a, rfl, fun i hi => ?_⟩⟩
    have hi' : i < zs.length := by simp at hi; omega
    rw [hcell i hi', List.getElem_take]
    simp [List.getD, hi']
set_option maxRecDepth 100000 in
theorem mergeParts_lifted (os : Os) (started : os.Started) (H : Type) (enc : TypeId × Value → H) :
    ReturnsInHanded {} Try.checked os 6 .any (Rows.mergePartsSpec.pre6 enc Try.prog Try.f6 Rows.mergePartsRow.domain false) (Rows.mergePartsSpec.post enc Try.prog Try.f6 false true false false) := by
  refine returnsInHanded_of_change (C := Try.checked) own started (by kernel_rfl) Try.func6
    (ChangeSpec.witness6 (enc := enc) (C := Try.checked) false ⟨#[], #[.agg #[.slice none 0 0, .slice none 0 0], .agg #[.slice none 0 0, .slice none 0 0], .slice none 0 0], []⟩ 8 (by kernel_rfl) (by kernel_rfl) (by kernel_rfl) (by kernel_rfl)) ?_
  intro W base args ds gs before hval0 hW _ _
  have hval : ∀ (j : Nat) t v, Try.f6.params[j]? = some t → args[j]? = some v → Value.okWide Try.prog W .any base t v := hval0
  have hW' := hW
  obtain ⟨p, q, hA0, hV, rfl, _, _⟩ := hW
  have hA : DataW.TrodAll enc Try.prog W 0 (fun _ => true) true Try.f6.params.toList args.toList ds p := hA0
  rw [Try.params6] at hA hval
  obtain ⟨v0, v1, v2, d0, d1, d2, p0, p1, p2, rfl, rfl, rfl, h0, h1, h2⟩ := trodAll_three hA
  obtain ⟨rfl, rfl⟩ := trodVars_none hV
  obtain ⟨x, T, rfl, a1, a2⟩ := open_tier (hval 0 24 v0 rfl rfl) h0
  obtain ⟨y, U, rfl, b1, b2⟩ := open_tier (hval 1 24 v1 rfl rfl) h1
  obtain ⟨no, nn, nc, nl, rfl, c1, c2, c3, c4⟩ := open_argN (hval 2 38 v2 rfl rfl) h2
  refine (parts_true x y T U no nn nc nl W a1 b1 c1 c2 c3 c4).mono fun e W' ⟨he, hb⟩ => ?_
  subst he
  exact ⟨_, rfl, law_post laidOut (by kernel_rfl) (by kernel_rfl : Try.f6.resultTypes = #[4]) Try.underlying4 rfl hW' rfl hb⟩

theorem mergeParts_holds : Rows.MergePartsSaid :=
  OpenClaim.holds_of_wide 6 Try.f6 rfl rfl rfl rfl rfl rfl rfl ⟨rfl, rfl, rfl, rfl, rfl⟩ rfl rfl rfl rfl rfl (by kernel_rfl) Try.func6 (by kernel_rfl)
    (of_decide_eq_true (by kernel_rfl)) (by unfold Func.isWrapper; first | (rw [if_pos (by decide +kernel)]; kernel_rfl) | (rw [if_neg (by decide +kernel)]; exact ⟨rfl, rfl⟩))
    (fun os started H enc _ => mergeParts_lifted os started H enc)
#print axioms mergeParts_holds
end Go.Proofs.Ytifhfeldjfcbfaa

