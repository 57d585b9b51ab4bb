/- MergeEnds' walk. -/
import Derived.Test.YtifhfeldjfcbfaaMD
import Derived.Test.YtifhfeldjfcbfaaM19
namespace Go.Proofs.Kit
open Go.RowKit
theorem ok_zero {t u : Tr} (o : Bool) (hg : oneT t ∧ oneT u) : okM t u ([], []) o 0 := ⟨hg, by omega, (outT_zero o t u).symm⟩
theorem ok_at {t u : Tr} (o : Bool) (hg : oneT t ∧ oneT u) {k : Nat} (hk : k ≤ (allP t u).length) : okM t u (outT o t u k) o (k : Int) := ⟨hg, by omega, by simp⟩
theorem left_zero {t u : Tr} (o : Bool) (hg : oneT t ∧ oneT u) : leftM t u ([], []) o 0 = ((allP t u).length : Int) := by
  rw [leftM, if_pos (ok_zero o hg)]
  omega
theorem left_at {t u : Tr} (o : Bool) (hg : oneT t ∧ oneT u) {k : Nat} (hk : k ≤ (allP t u).length) : leftM t u (outT o t u k) o (k : Int) = ((allP t u).length : Int) - (k : Int) := by
  rw [leftM, if_pos (ok_at o hg hk)]
end Go.Proofs.Kit
namespace Go.Proofs.Ytifhfeldjfcbfaa
open Go.RowKit Go.Proofs.Kit Go.Shelf
theorem few24_sh (T U : Tr) : Sh (few24 T) (few24 U) := by
  unfold Sh few24
  simp
  omega
theorem few24_w {T : Tr} (h : Wt T) : Wt (few24 T) := ⟨fun p hp => h.1 p (List.mem_of_mem_take hp), fun p hp => h.2 p (List.mem_of_mem_take hp)⟩
/-- A tier as an argument. -/
def ArgQ (w : World) (x : Ti) (t : Tr) : Prop := (t.1.length = x.an ∧ x.an ≤ x.ac ∧ x.ac ≤ 9223372036854775807 ∧ ArgP w x.ao x.ac t.1) ∧ (t.2.length = x.bn ∧ x.bn ≤ x.bc ∧ x.bc ≤ 9223372036854775807 ∧ ArgP w x.bo x.bc t.2)
theorem ArgQ.later {w w' : World} {x : Ti} {t : Tr} (h : ArgQ w x t) (hb : Below w.heap.size w w') : ArgQ w' x t := ⟨⟨h.1.1, h.1.2.1, h.1.2.2.1, h.1.2.2.2.later hb⟩, ⟨h.2.1, h.2.2.1, h.2.2.2.1, h.2.2.2.2.later hb⟩⟩
set_option maxRecDepth 100000 in
set_option maxHeartbeats 16000000 in
theorem ends_true (x y : Ti) (T U : Tr) (o : Bool) (w : World) (hx : ArgQ w x T) (hy : ArgQ w y U) (hT : Wt T) (hU : Wt U) :
    Calls Try.prog 5 #[.agg #[x.av, x.bv], .agg #[y.av, y.bv], .bool o] w fun e w' => e = .returned (.bool true) ∧ Below w.heap.size w w' := by
  have HX := Lib.hid (fun W (hb : Below w.heap.size w W) => ownT12_any x T W (hx.later hb).1 (hx.later hb).2)
  have HY := Lib.hid (fun W (hb : Below w.heap.size w W) => ownT12_any y U W (hy.later hb).1 (hy.later hb).2)
  obtain ⟨t, ht⟩ : ∃ t, t = few24 T := ⟨_, rfl⟩
  obtain ⟨u, hu⟩ : ∃ u, u = few24 U := ⟨_, rfl⟩
  have HSH := Lib.hid (show Sh t u by rw [ht, hu]; exact few24_sh T U)
  have HWL := Lib.hid (show Wl [t, u] from fun r hr => by
    simp only [List.mem_cons, List.not_mem_nil, or_false] at hr
    rcases hr with rfl | rfl
    · rw [ht]; exact few24_w hT
    · rw [hu]; exact few24_w hU)
  have HT := Lib.hid ht
  have HU := Lib.hid hu
  clear hx hy hT hU ht hu
  go_enter Try.func5, Try.ntmps5
  go_wp2_with fail
  refine (wakes12_true _).mono ?_
  rintro e w1 ⟨rfl, b1⟩
  have gA := ((Gr.alloc w (.cells #[x.av, x.bv] 24)).trans (Gr.alloc _ (.cells #[y.av, y.bv] 24))).below
  have kx := ((Blk.new w #[x.av, x.bv] 24).alloc (.cells #[y.av, y.bv] 24)).later b1
  have ky := (Blk.new (w.alloc (.cells #[x.av, x.bv] 24)) #[y.av, y.bv] 24).later b1
  simp only [World.size_alloc] at ky
  have L1 := Lib.hid (below_later gA b1)
  clear gA b1
  go_wp2_with fail
  refine ME_region w1 w.heap.size (w.heap.size + 1) x y T U o w1 _ rfl (Below.refl _ _) kx ky kx.lt ky.lt (Lib.hid (fun W hb => HX.out W (below_later L1.out hb))) (Lib.hid (fun W hb => HY.out W (below_later L1.out hb))) ?_
  rintro L t7 t8 t20 t21 t22 t23 fo fn fc fp fq fr ko kn kc kp kq kr b7 b8 X hall h
  have e7 := (h.h4 (hall 4 (by decide))).1
  have e8 := (h.h5 (hall 5 (by decide))).1
  have K7 := Lib.hid (h.k7 (hall 6 (by decide)))
  have K8 := Lib.hid (h.k8 (hall 7 (by decide)))
  have HA := Lib.hid (show TR X _ t by rw [HT.out]; exact (h.h1 (hall 1 (by decide))).2.tr)
  have HB := Lib.hid (show TR X _ u by rw [HU.out]; exact (h.h3 (hall 3 (by decide))).2.tr)
  have LX := Lib.hid (below_later L1.out h.low)
  subst e7 e8
  have a0 := K7.out.cell 0
  have a1 := K7.out.cell 1
  have la := K7.out.lt
  have c0 := K8.out.cell 0
  have c1 := K8.out.cell 1
  have lc := K8.out.lt
  simp only [List.getElem?_toArray, List.getElem?_cons_zero, List.getElem?_cons_succ] at a0 a1 c0 c1
  have HBG := Lib.hid (beginM_any _ _ t u o X HA.out HB.out HSH.out)
  simp only [Ti.av, Ti.bv] at HBG
  clear h hall kx ky L1 HX HY HT HU
  go_wp2_with fail
  refine HBG.out.mono ?_
  rintro e w3 (⟨⟨hg, x6, y6, z6, rfl, hm6⟩, b6⟩ | ⟨⟨hno, rfl⟩, b6⟩)
  · have LX3 := Lib.hid (below_later LX.out b6)
    obtain ⟨xo, xn, xc, xp, xq, xr⟩ := x6
    obtain ⟨yo, yn, yc, yp, yq, yr⟩ := y6
    obtain ⟨zo, zn, zc, zp, zq, zr⟩ := z6
    have HM6 := Lib.hid hm6
    have K7 := Lib.hid (K7.out.later b6)
    have K8 := Lib.hid (K8.out.later b6)
    have HA := Lib.hid (HA.out.later b6)
    have HB := Lib.hid (HB.out.later b6)
    have HG := Lib.hid hg
    simp only [mgV, Ti.av, Ti.bv]
    clear hg hm6 b6 LX HBG a0 a1 la c0 c1 lc
    go_wp2_with fail
    have gA := (Gr.alloc w3 (.cells #[.slice xo xn xc, .slice xp xq xr, .slice yo yn yc, .slice yp yq yr, .bool o, .int .i64 0, .slice zo zn zc, .slice zp zq zr] 26)).below
    have K9 := Lib.hid (Blk.new w3 #[.slice xo xn xc, .slice xp xq xr, .slice yo yn yc, .slice yp yq yr, .bool o, .int .i64 0, .slice zo zn zc, .slice zp zq zr] 26)
    have hL := leftS_any ⟨xo, xn, xc, xp, xq, xr⟩ ⟨yo, yn, yc, yp, yq, yr⟩ ⟨zo, zn, zc, zp, zq, zr⟩ t u ([], []) o 0 _ (HM6.out.x.tr.later gA) (HM6.out.y.tr.later gA) (HM6.out.z.tr.later gA) HSH.out
    rw [left_zero o HG.out] at hL
    simp only [mgV, Ti.av, Ti.bv] at hL
    obtain ⟨q, hq⟩ : ∃ q, q = (allP t u).length := ⟨_, rfl⟩
    have HQ := Lib.hid hq
    rw [← hq] at hL
    refine hL.mono ?_
    rintro e w4 ⟨rfl, b4⟩
    have b34 := below_later gA b4
    have LX4 := Lib.hid (below_later LX3.out b34)
    have K7 := Lib.hid (K7.out.later b34)
    have K8 := Lib.hid (K8.out.later b34)
    have K9 := Lib.hid (K9.out.later b4)
    have HA := Lib.hid (HA.out.later b34)
    have HB := Lib.hid (HB.out.later b34)
    have HM6 := Lib.hid (HM6.out.later b34)
    obtain ⟨⟨m0, m1, m2, m3, m4, m5, m6, m7⟩, lm⟩ := K9.out.all8
    clear gA hL hq b4 b34 LX3
    go_wp2_with fail
    have hS := stepM_ok ⟨xo, xn, xc, xp, xq, xr⟩ ⟨yo, yn, yc, yp, yq, yr⟩ ⟨zo, zn, zc, zp, zq, zr⟩ t u ([], []) o 0 w4 HM6.out.x.tr HM6.out.y.tr HM6.out.z.tr HSH.out (q : Int) (ok_zero o HG.out) (by omega) q (by rw [left_zero o HG.out, ← HQ.out]; omega)
    simp only [mgV, Ti.av, Ti.bv] at hS
    refine hS.mono ?_
    rintro e w5 ⟨x8, y8, z8, rfl, hm8, b5⟩
    have LX5 := Lib.hid (below_later LX4.out b5)
    have K7 := Lib.hid (K7.out.later b5)
    have K8 := Lib.hid (K8.out.later b5)
    have HA := Lib.hid (HA.out.later b5)
    have HB := Lib.hid (HB.out.later b5)
    obtain ⟨ao, an, ac, ap, aq, ar⟩ := x8
    obtain ⟨bo, bn, bc, bp, bq, br⟩ := y8
    obtain ⟨co, cn, cc, cp, cq, cr⟩ := z8
    rw [show (0 : Int).toNat + q = q by simp] at hm8
    have HM8 := Lib.hid hm8
    simp only [Int.zero_add]
    clear hS hm8 b5 LX4 HM6 m0 m1 m2 m3 m4 m5 m6 m7 lm
    go_wp2_with fail
    have gB := (Gr.alloc w5 (.cells #[.slice ao an ac, .slice ap aq ar, .slice bo bn bc, .slice bp bq br, .bool o, .int .i64 (q : Int), .slice co cn cc, .slice cp cq cr] 26)).below
    have K12 := Lib.hid (Blk.new w5 #[.slice ao an ac, .slice ap aq ar, .slice bo bn bc, .slice bp bq br, .bool o, .int .i64 (q : Int), .slice co cn cc, .slice cp cq cr] 26)
    have hqq : q ≤ (allP t u).length := by rw [HQ.out]; exact Nat.le_refl _
    have hl8 : leftM t u (outT o t u q) o (q : Int) = 0 := by rw [left_at o HG.out hqq, ← HQ.out]; omega
    have hlen := outT_len o t u q
    have h4 := allP_len (m := 1000) ⟨HSH.out.1.1, HSH.out.1.2, HSH.out.2.1, HSH.out.2.2⟩
    have he : endE t u (outT o t u q) o (q : Int) = 0 := by rw [endE, if_pos (ok_at o HG.out hqq), hl8]; rfl
    have hE := endM_any ⟨ao, an, ac, ap, aq, ar⟩ ⟨bo, bn, bc, bp, bq, br⟩ ⟨co, cn, cc, cp, cq, cr⟩ t u (outT o t u q) o (q : Int) _ (HM8.out.x.tr.later gB) (HM8.out.y.tr.later gB) (HM8.out.z.tr.later gB) HSH.out (by omega)
    rw [he, if_pos rfl, outT_all HG.out.1 HG.out.2 o (by rw [← HQ.out]; exact Nat.le_refl _)] at hE
    have HLF := Lib.hid (fun W (hb : Below w5.heap.size w5 W) => leftS_any ⟨ao, an, ac, ap, aq, ar⟩ ⟨bo, bn, bc, bp, bq, br⟩ ⟨co, cn, cc, cp, cq, cr⟩ t u (outT o t u q) o (q : Int) W (HM8.out.x.tr.later hb) (HM8.out.y.tr.later hb) (HM8.out.z.tr.later hb) HSH.out)
    rw [hl8] at HLF
    simp only [mgV, Ti.av, Ti.bv] at hE HLF
    refine hE.mono ?_
    rintro e w6 ⟨⟨eo, en, ec, ep, eq, er⟩, rfl, hz, b6⟩
    have b56 := below_later gB b6
    have LX6 := Lib.hid (below_later LX5.out b56)
    have K7 := Lib.hid (K7.out.later b56)
    have K8 := Lib.hid (K8.out.later b56)
    have K12 := Lib.hid (K12.out.later b6)
    have HA := Lib.hid (HA.out.later b56)
    have HB := Lib.hid (HB.out.later b56)
    have HZ := Lib.hid (show TR w6 _ (joinT o [t, u]) from hz.tr)
    have HB56 := Lib.hid b56
    have a0 := K7.out.cell 0
    have a1 := K7.out.cell 1
    have la := K7.out.lt
    have c0 := K8.out.cell 0
    have c1 := K8.out.cell 1
    have lc := K8.out.lt
    simp only [List.getElem?_toArray, List.getElem?_cons_zero, List.getElem?_cons_succ] at a0 a1 c0 c1
    clear gB hE hz b6 b56 LX5 he hl8 hlen h4 hqq
    go_wp2_with fail
    have gC := (Gr.alloc w6 (.cells #[.slice eo en ec, .slice ep eq er] 24)).below
    have K14 := Lib.hid (Blk.new w6 #[.slice eo en ec, .slice ep eq er] 24)
    have hJ := join_any o _ _ t u _ (HA.out.later gC) (HB.out.later gC) HWL.out (fun r hr => by have h1 := HSH.out.1; have h2 := HSH.out.2; simp only [List.mem_cons, List.not_mem_nil, or_false] at hr; rcases hr with rfl | rfl <;> omega)
    rw [ckT_yes (good2.2 HG.out), if_pos (good2.2 HG.out)] at hJ
    refine hJ.mono ?_
    rintro e w7 ⟨⟨jo, jn, jc, jp, jq, jr⟩, rfl, hz7, b7'⟩
    have b67 := below_later gC b7'
    have LX7 := Lib.hid (below_later LX6.out b67)
    have K12 := Lib.hid (K12.out.later b67)
    have K14 := Lib.hid (K14.out.later b7')
    have HZ := Lib.hid (HZ.out.later b67)
    have HZ7 := Lib.hid (show TR w7 _ (joinT o [t, u]) from hz7.tr)
    have HB57 := Lib.hid (below_later HB56.out b67)
    have d0 := K14.out.cell 0
    have d1 := K14.out.cell 1
    have ld := K14.out.lt
    obtain ⟨⟨m0, m1, m2, m3, m4, m5, m6, m7⟩, lm⟩ := K12.out.all8
    simp only [List.getElem?_toArray, List.getElem?_cons_zero, List.getElem?_cons_succ] at d0 d1
    clear gC hJ hz7 b7' b67 LX6 HB56 K7 K8 HA HB a0 a1 la c0 c1 lc
    go_wp2_with fail
    obtain ⟨W9, hW9⟩ : ∃ W9, W9 = ((w7.alloc (.cells #[.slice jo jn jc, .slice jp jq jr] 24)).alloc (.cells #[.slice eo en ec, .slice ep eq er] 24)).alloc (.cells #[.slice jo jn jc, .slice jp jq jr] 24) := ⟨_, rfl⟩
    have g9 : Below w7.heap.size w7 W9 := by rw [hW9]; exact (((Gr.alloc _ _).trans (Gr.alloc _ _)).trans (Gr.alloc _ _)).below
    have ka : Blk W9 (w7.heap.size + 1) #[.slice eo en ec, .slice ep eq er] 24 := by
      rw [hW9]
      have := (Blk.new (w7.alloc (.cells #[.slice jo jn jc, .slice jp jq jr] 24)) #[.slice eo en ec, .slice ep eq er] 24).alloc (.cells #[.slice jo jn jc, .slice jp jq jr] 24)
      simpa using this
    have kb : Blk W9 (w7.heap.size + 1 + 1) #[.slice jo jn jc, .slice jp jq jr] 24 := by
      rw [hW9]
      have := Blk.new ((w7.alloc (.cells #[.slice jo jn jc, .slice jp jq jr] 24)).alloc (.cells #[.slice eo en ec, .slice ep eq er] 24)) #[.slice jo jn jc, .slice jp jq jr] 24
      simpa using this
    have hSA := same11_any _ _ [joinT o [t, u]] [joinT o [t, u]] W9 (segM1 (x := ⟨eo, en, ec, ep, eq, er⟩) ka (HZ.out.later g9)) (segM1 (x := ⟨jo, jn, jc, jp, jq, jr⟩) kb (HZ7.out.later g9)) true (by simp)
    rw [← hW9]
    refine hSA.mono ?_
    rintro e w10 ⟨rfl, g10⟩
    have b710 := below_later g9 g10.below
    have LX10 := Lib.hid (below_later LX7.out b710)
    have K12 := Lib.hid (K12.out.later b710)
    have HB510 := Lib.hid (below_later HB57.out b710)
    obtain ⟨⟨m0, m1, m2, m3, m4, m5, m6, m7⟩, lm⟩ := K12.out.all8
    clear hW9 g9 ka kb hSA g10 b710 LX7 HB57 HZ HZ7 K14 d0 d1 ld
    go_wp2_with fail
    refine (HLF.out _ HB510.out).mono ?_
    rintro e w11 ⟨rfl, b11⟩
    have LX11 := Lib.hid (below_later LX10.out b11)
    clear b11 m0 m1 m2 m3 m4 m5 m6 m7 lm
    go_wp2
    go_ret
    exact ⟨rfl, LX11.out⟩
  · have LX3 := Lib.hid (below_later LX.out b6)
    have K7 := Lib.hid (K7.out.later b6)
    have K8 := Lib.hid (K8.out.later b6)
    have HA := Lib.hid (HA.out.later b6)
    have HB := Lib.hid (HB.out.later b6)
    have a0 := K7.out.cell 0
    have a1 := K7.out.cell 1
    have la := K7.out.lt
    have c0 := K8.out.cell 0
    have c1 := K8.out.cell 1
    have lc := K8.out.lt
    simp only [List.getElem?_toArray, List.getElem?_cons_zero, List.getElem?_cons_succ] at a0 a1 c0 c1
    have HNO := Lib.hid hno
    clear hno b6 LX HBG
    go_wp2_with fail
    obtain ⟨W9, hW9⟩ : ∃ W9, W9 = (w3.alloc (.cells mzV 26)).alloc (.cells #[.slice fo fn fc, .slice fp fq fr, .slice ko kn kc, .slice kp kq kr] 24) := ⟨_, rfl⟩
    have g9 : Below w3.heap.size w3 W9 := by rw [hW9]; exact ((Gr.alloc _ _).trans (Gr.alloc _ _)).below
    have kz : Blk W9 w3.heap.size mzV 26 := by rw [hW9]; exact (Blk.new _ _ _).alloc _
    have kb : Blk W9 (w3.heap.size + 1) #[.slice fo fn fc, .slice fp fq fr, .slice ko kn kc, .slice kp kq kr] 24 := by
      rw [hW9]
      have := Blk.new (w3.alloc (.cells mzV 26)) #[.slice fo fn fc, .slice fp fq fr, .slice ko kn kc, .slice kp kq kr] 24
      simpa using this
    have hC := check11_any _ [t, u] W9 (segM2 (x := ⟨fo, fn, fc, fp, fq, fr⟩) (y := ⟨ko, kn, kc, kp, kq, kr⟩) kb (HA.out.later g9) (HB.out.later g9)) (fun r hr => by have h1 := HSH.out.1; have h2 := HSH.out.2; simp only [List.mem_cons, List.not_mem_nil, or_false] at hr; rcases hr with rfl | rfl <;> omega)
    rw [ckT_no (fun c => HNO.out (good2.1 c))] at hC
    rw [← hW9]
    refine hC.mono ?_
    rintro e w4 ⟨rfl, b4⟩
    have LX4 := Lib.hid (below_later LX3.out (below_later g9 b4))
    have KZ := Lib.hid (kz.later b4)
    obtain ⟨⟨m0, m1, m2, m3, m4, m5, m6, m7⟩, lm⟩ := KZ.out.all8
    clear hW9 g9 kz kb hC b4 LX3 a0 a1 la c0 c1 lc
    go_wp2
    go_ret
    exact ⟨rfl, LX4.out⟩
end Go.Proofs.Ytifhfeldjfcbfaa

