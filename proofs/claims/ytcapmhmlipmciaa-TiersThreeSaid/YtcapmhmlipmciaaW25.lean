/- TiersThree's walk. -/
import Derived.Test.YtcapmhmlipmciaaW20
import Derived.Test.YtcapmhmlipmciaaW22
namespace Go.Proofs.Kit
open Go.RowKit
theorem alloc3 (W : World) (x y z : Array Value) (t : TypeId) : Blk (((W.alloc (.cells x t)).alloc (.cells y t)).alloc (.cells z t)).drew W.heap.size x t ∧ Blk (((W.alloc (.cells x t)).alloc (.cells y t)).alloc (.cells z t)).drew (W.heap.size + 1) y t ∧
    Blk (((W.alloc (.cells x t)).alloc (.cells y t)).alloc (.cells z t)).drew (W.heap.size + 1 + 1) z t ∧ Below W.heap.size W (((W.alloc (.cells x t)).alloc (.cells y t)).alloc (.cells z t)).drew := by
  refine ⟨((Blk.new _ _ _).alloc _).alloc _, ?_, ?_, (((Gr.alloc _ _).trans (Gr.alloc _ _)).trans (Gr.alloc _ _)).below.drew⟩
  · have := (Blk.new (W.alloc (.cells x t)) y t).alloc (.cells z t)
    simpa using this.drew
  · have := Blk.new ((W.alloc (.cells x t)).alloc (.cells y t)) z t
    simpa using this.drew
end Go.Proofs.Kit
namespace Go.Proofs.Ytcapmhmlipmciaa
open Go.RowKit Go.Proofs.Kit Go.Shelf
set_option maxRecDepth 100000 in
set_option maxHeartbeats 16000000 in
theorem three_true (o : Option Addr) (n c : Nat) (X : List Tr) (old : Bool) (w : World) (hl : X.length = n) (hc : n ≤ c) (hm : c ≤ 9223372036854775807) (ha : ArgT w o c X) (hw : Wl X) :
    Calls Try.prog 8 #[.slice o n c, .bool old] w fun e w' => e = .returned (.bool true) ∧ Below w.heap.size w w' := by
  have HA := Lib.hid (fun W (hb : Below w.heap.size w W) => own11_any o n c X W hl hc hm (ha.later hb))
  obtain ⟨L, hL⟩ : ∃ L, L = ownL X := ⟨_, rfl⟩
  rw [← hL] at HA
  have HW := Lib.hid (show Wl L by rw [hL]; exact ownL_w hw)
  have HS := Lib.hid (show SmT 16 L by rw [hL]; exact ownL_s X)
  clear hL hl ha hw
  go_enter Try.func8, Try.ntmps8
  go_wp2_with fail
  refine (wakes11_true _).mono ?_
  rintro e w1 ⟨rfl, b1⟩
  have L1 := Lib.hid b1
  clear b1
  go_wp2_with fail
  refine (HA.out _ L1.out).mono ?_
  rintro e w2 ⟨v2, rfl, o2, b2⟩
  have L2 := Lib.hid (below_later L1.out b2)
  have S2 := Lib.hid o2.seg
  have HC := Lib.hid (check11_any _ L w2 o2.seg (HS.out.mono (by decide)))
  obtain ⟨ol, cl, rfl, hcl, hml⟩ := o2.seg.shape
  obtain ⟨nl, hnl⟩ : ∃ nl, nl = L.length := ⟨_, rfl⟩
  rw [← hnl] at S2 HC hcl ⊢
  have HNL := Lib.hid hnl
  clear o2 b2 HA hnl
  by_cases h3 : nl < 3
  · have t0 : decide ((nl : Int) < 3) = true := decide_eq_true (by omega)
    clear h3
    go_wp2
    go_ret
    exact ⟨rfl, L2.out⟩
  · have t0 : decide ((nl : Int) < 3) = false := decide_eq_false (by omega)
    go_wp2_with fail
    refine HC.out.mono ?_
    rintro e w3 ⟨rfl, b3⟩
    have L3 := Lib.hid (below_later L2.out b3)
    have S3 := Lib.hid (S2.out.later b3)
    clear b3 HC
    by_cases hg : goodT L
    · have e1 : ckT L = 0 := ckT_yes hg
      rw [e1]
      have h3' : 3 ≤ L.length := by have := HNL.out; omega
      obtain ⟨b, f, xa, rfl, _, lb, d0, d1, ta⟩ := S3.out.at (i := 0) (by omega)
      obtain ⟨b', f', xb, he1, _, _, d2, d3, tb⟩ := S3.out.at (i := 1) (by omega)
      obtain ⟨b'', f'', xc, he2, _, _, d4, d5, tc⟩ := S3.out.at (i := 2) (by omega)
      injection he1 with he1
      injection he1 with he1 he1'
      injection he2 with he2
      injection he2 with he2 he2'
      subst he1 he1' he2 he2'
      have g1 : oneT L[0] := hg.1 _ (List.getElem_mem _)
      have g2 : oneT L[1] := hg.1 _ (List.getElem_mem _)
      have g3 : oneT L[2] := hg.1 _ (List.getElem_mem _)
      have s1 := HS.out L[0] (List.getElem_mem _)
      have s2 := HS.out L[1] (List.getElem_mem _)
      have s3 := HS.out L[2] (List.getElem_mem _)
      have q1 := HW.out L[0] (List.getElem_mem _)
      have q2 := HW.out L[1] (List.getElem_mem _)
      have q3 := HW.out L[2] (List.getElem_mem _)
      obtain ⟨a, hA⟩ : ∃ a, a = L[0] := ⟨_, rfl⟩
      obtain ⟨bb, hB⟩ : ∃ bb, bb = L[1] := ⟨_, rfl⟩
      obtain ⟨cc, hC⟩ : ∃ cc, cc = L[2] := ⟨_, rfl⟩
      rw [← hA] at g1 s1 q1 ta
      rw [← hB] at g2 s2 q2 tb
      rw [← hC] at g3 s3 q3 tc
      have HQ := Lib.hid (And.intro (And.intro g1 (And.intro g2 g3)) (And.intro (And.intro s1 (And.intro s2 s3)) (And.intro q1 (And.intro q2 q3))))
      have HT := Lib.hid (And.intro ta (And.intro tb tc))
      obtain ⟨ao, an, ac, ao', an', ac'⟩ := xa
      obtain ⟨bo, bn, bc, bo', bn', bc'⟩ := xb
      obtain ⟨co, cn, cc1, co', cn', cc'⟩ := xc
      simp only [Nat.zero_mul, Nat.add_zero, Nat.one_mul, Nat.reduceMul] at d0 d1 d2 d3 d4 d5
      have i1 : 1 < nl := by omega
      have i2 : 2 < nl := by omega
      have i0 : 0 < nl := by omega
      have j1 : (1 : Int) < (nl : Int) := by omega
      have j2 : (2 : Int) < (nl : Int) := by omega
      have lb1 : b < w3.heap.size + 1 := by omega
      have lb2 : b < w3.heap.size + 1 + 1 := by omega
      have lb3 : b < w3.heap.size + 1 + 1 + 1 := by omega
      clear e1 hg hA hB hC g1 g2 g3 s1 s2 s3 q1 q2 q3 ta tb tc h3' S2
      go_upto_region 6 with (fail)
      go_cut [6, 7, 8] from 29 to 37 (fun s6 s7 s8 wx => ∃ p6 p7 p8, s6 = .pointer (some ⟨p6, 0, none⟩) ∧ s7 = .pointer (some ⟨p7, 0, none⟩) ∧ s8 = .pointer (some ⟨p8, 0, none⟩) ∧ Hid (Blk wx p6 #[.slice ao an ac, .slice ao' an' ac'] 38 ∧ Blk wx p7 #[.slice bo bn bc, .slice bo' bn' bc'] 38 ∧ Blk wx p8 #[.slice co cn cc1, .slice co' cn' cc'] 38 ∧ Below w3.heap.size w3 wx))
      case first =>
        go_region
        all_goals
          go_wp2_with fail
          go_meet
          refine ⟨_, _, _, rfl, rfl, rfl, Lib.hid ⟨?_, ?_, ?_, (alloc3 _ _ _ _ _).2.2.2⟩⟩ <;> first | exact (alloc3 _ _ _ _ _).1 | exact (alloc3 _ _ _ _ _).2.1 | exact (alloc3 _ _ _ _ _).2.2.1
      case rest =>
        obtain ⟨p6, p7, p8, rfl, rfl, rfl, HK⟩ := hcut
        obtain ⟨⟨g1, g2, g3⟩, ⟨s1, s2, s3⟩, q1, q2, q3⟩ := HQ.out
        obtain ⟨ta, tb, tc⟩ := HT.out
        have K6 := Lib.hid HK.out.1
        have K7 := Lib.hid HK.out.2.1
        have K8 := Lib.hid HK.out.2.2.1
        have L4 := Lib.hid (below_later L3.out HK.out.2.2.2)
        have TA := Lib.hid (ta.later HK.out.2.2.2)
        have TB := Lib.hid (tb.later HK.out.2.2.2)
        have TC := Lib.hid (tc.later HK.out.2.2.2)
        have S2 : ∀ t u : Tr, (t.1.length ≤ 16 ∧ t.2.length ≤ 16) → (u.1.length ≤ 16 ∧ u.2.length ≤ 16) → SmT 16 [t, u] := fun t u h k x hx => by
          simp at hx
          rcases hx with rfl | rfl
          · exact h
          · exact k
        have W2 : ∀ t u : Tr, Wt t → Wt u → Wl [t, u] := fun t u h k x hx => by
          simp at hx
          rcases hx with rfl | rfl
          · exact h
          · exact k
        have S3' : ∀ t u : Tr, (t.1.length ≤ 64 ∧ t.2.length ≤ 64) → (u.1.length ≤ 64 ∧ u.2.length ≤ 64) → SmT 64 [t, u] := fun t u h k x hx => by
          simp at hx
          rcases hx with rfl | rfl
          · exact h
          · exact k
        have sab := S2 a bb s1 s2
        have sbc := S2 bb cc s2 s3
        have wab := W2 a bb q1 q2
        have wbc := W2 bb cc q2 q3
        have lab := joinT_len sab old
        have lbc := joinT_len sbc false
        have oab := joinT_one sab (by simp) old
        have obc := joinT_one sbc (by simp) false
        have HJ1 := Lib.hid (fun W (h1 : TR W _ a) (h2 : TR W _ bb) => join_any old ⟨ao, an, ac, ao', an', ac'⟩ ⟨bo, bn, bc, bo', bn', bc'⟩ a bb W h1 h2 wab (sab.mono (by decide)))
        have HJ2 := Lib.hid (fun W (h1 : TR W _ bb) (h2 : TR W _ cc) => join_any false ⟨bo, bn, bc, bo', bn', bc'⟩ ⟨co, cn, cc1, co', cn', cc'⟩ bb cc W h1 h2 wbc (sbc.mono (by decide)))
        have hg1 := good_two g1 g2
        have hg2 := good_two g2 g3
        have hg3 := good_two oab g3
        have hg4 := good_two g1 obc
        simp only [ckT_yes hg1, if_pos hg1] at HJ1
        simp only [ckT_yes hg2, if_pos hg2] at HJ2
        have w1' := W2 _ _ (joinT_w wab old) q3
        have w2' := W2 _ _ q1 (joinT_w wbc false)
        have sm1 := S3' (joinT old [a, bb]) cc (by simp at lab; exact lab) (by omega)
        have sm2 := S3' a (joinT false [bb, cc]) (by omega) (by simp at lbc; exact lbc)
        have HJ3 := Lib.hid (fun W z (h1 : TR W z (joinT old [a, bb])) (h2 : TR W _ cc) => join_any old z ⟨co, cn, cc1, co', cn', cc'⟩ _ cc W h1 h2 w1' (sm1.mono (by decide)))
        have HJ4 := Lib.hid (fun W z (h1 : TR W _ a) (h2 : TR W z (joinT false [bb, cc])) => join_any old ⟨ao, an, ac, ao', an', ac'⟩ z a _ W h1 h2 w2' (sm2.mono (by decide)))
        simp only [ckT_yes hg3, if_pos hg3, three_same] at HJ3
        simp only [ckT_yes hg4, if_pos hg4] at HJ4
        have c0 := K6.out.cell 0
        have c1 := K6.out.cell 1
        have c2 := K7.out.cell 0
        have c3 := K7.out.cell 1
        have l6 := K6.out.lt
        have l7 := K7.out.lt
        simp only [List.getElem?_toArray, List.getElem?_cons_zero, List.getElem?_cons_succ] at c0 c1 c2 c3
        clear HK HT HQ g1 g2 g3 s1 s2 s3 q1 q2 q3 ta tb tc S2 W2 S3' sab sbc wab wbc lab lbc oab obc hg1 hg2 hg3 hg4 w1' w2' sm1 sm2 lb lb1 lb2 lb3 d0 d1 d2 d3 d4 d5 i0 i1 i2 j1 j2
        go_wp2_with fail
        refine (HJ1.out _ TA.out TB.out).mono ?_
        rintro e w5 ⟨⟨zo, zn, zc, zo', zn', zc'⟩, rfl, y5, b5⟩
        have g5 := Gr.alloc w5 (.cells #[.slice zo zn zc, .slice zo' zn' zc'] 38)
        obtain ⟨W5, hW5⟩ : ∃ W5, W5 = w5.alloc (.cells #[.slice zo zn zc, .slice zo' zn' zc'] 38) := ⟨_, rfl⟩
        have n5 : Blk W5 w5.heap.size #[.slice zo zn zc, .slice zo' zn' zc'] 38 := by rw [hW5]; exact Blk.new _ _ _
        rw [← hW5] at g5
        have TA5 := Lib.hid ((TA.out.later b5).later g5.below)
        have TB5 := Lib.hid ((TB.out.later b5).later g5.below)
        have TC5 := Lib.hid ((TC.out.later b5).later g5.below)
        have K65 := Lib.hid ((K6.out.later b5).later g5.below)
        have k7 := (K7.out.later b5).later g5.below
        have k8 := (K8.out.later b5).later g5.below
        have K85 := Lib.hid k8
        have N5 := Lib.hid n5
        have Y5 := Lib.hid (y5.tr.later g5.below)
        have L5 := Lib.hid (below_later (below_later L4.out b5) g5.below)
        have c0 := k7.cell 0
        have c1 := k7.cell 1
        have c2 := k8.cell 0
        have c3 := k8.cell 1
        have l7 := k7.lt
        have l8 := k8.lt
        simp only [List.getElem?_toArray, List.getElem?_cons_zero, List.getElem?_cons_succ] at c0 c1 c2 c3
        clear y5 b5 g5 n5 k7 k8 HJ1
        go_upto_region 8 with (fail)
        rw [← hW5]
        clear hW5
        go_wp2_with fail
        refine (HJ2.out _ TB5.out TC5.out).mono ?_
        rintro e w6 ⟨⟨yo, yn, yc, yo', yn', yc'⟩, rfl, y6, b6⟩
        have g6 := Gr.alloc w6 (.cells #[.slice yo yn yc, .slice yo' yn' yc'] 38)
        obtain ⟨W6, hW6⟩ : ∃ W6, W6 = w6.alloc (.cells #[.slice yo yn yc, .slice yo' yn' yc'] 38) := ⟨_, rfl⟩
        have n6 : Blk W6 w6.heap.size #[.slice yo yn yc, .slice yo' yn' yc'] 38 := by rw [hW6]; exact Blk.new _ _ _
        rw [← hW6] at g6
        have TA6 := Lib.hid ((TA5.out.later b6).later g6.below)
        have TC6 := Lib.hid ((TC5.out.later b6).later g6.below)
        have Y56 := Lib.hid ((Y5.out.later b6).later g6.below)
        have K66 := Lib.hid ((K65.out.later b6).later g6.below)
        have k8 := (K85.out.later b6).later g6.below
        have k5 := (N5.out.later b6).later g6.below
        have N6 := Lib.hid n6
        have Y6 := Lib.hid (y6.tr.later g6.below)
        have L6 := Lib.hid (below_later (below_later L5.out b6) g6.below)
        have c0 := k8.cell 0
        have c1 := k8.cell 1
        have c2 := k5.cell 0
        have c3 := k5.cell 1
        have l7 := k8.lt
        have l8 := k5.lt
        simp only [List.getElem?_toArray, List.getElem?_cons_zero, List.getElem?_cons_succ] at c0 c1 c2 c3
        clear y6 b6 g6 n6 k8 k5 HJ2
        go_upto_region 9 with (fail)
        rw [← hW6]
        clear hW6
        go_wp2_with fail
        refine (HJ3.out _ ⟨zo, zn, zc, zo', zn', zc'⟩ Y56.out TC6.out).mono ?_
        rintro e w7 ⟨⟨xo, xn, xc, xo', xn', xc'⟩, rfl, y7, b7⟩
        have g7 := Gr.alloc w7 (.cells #[.slice xo xn xc, .slice xo' xn' xc'] 38)
        obtain ⟨W7, hW7⟩ : ∃ W7, W7 = w7.alloc (.cells #[.slice xo xn xc, .slice xo' xn' xc'] 38) := ⟨_, rfl⟩
        have n7 : Blk W7 w7.heap.size #[.slice xo xn xc, .slice xo' xn' xc'] 38 := by rw [hW7]; exact Blk.new _ _ _
        rw [← hW7] at g7
        have TA7 := Lib.hid ((TA6.out.later b7).later g7.below)
        have Y67 := Lib.hid ((Y6.out.later b7).later g7.below)
        have k6 := (K66.out.later b7).later g7.below
        have k5 := (N6.out.later b7).later g7.below
        have N7 := Lib.hid n7
        have Y7 := Lib.hid (y7.tr.later g7.below)
        have L7 := Lib.hid (below_later (below_later L6.out b7) g7.below)
        have c0 := k6.cell 0
        have c1 := k6.cell 1
        have c2 := k5.cell 0
        have c3 := k5.cell 1
        have l7 := k6.lt
        have l8 := k5.lt
        simp only [List.getElem?_toArray, List.getElem?_cons_zero, List.getElem?_cons_succ] at c0 c1 c2 c3
        clear y7 b7 g7 n7 k6 k5 HJ3
        go_upto_region 10 with (fail)
        rw [← hW7]
        clear hW7
        go_wp2_with fail
        refine (HJ4.out _ ⟨yo, yn, yc, yo', yn', yc'⟩ TA7.out Y67.out).mono ?_
        rintro e w8 ⟨⟨vo, vn, vc, vo', vn', vc'⟩, rfl, y8, b8⟩
        have g8 := Gr.alloc w8 (.cells #[.slice vo vn vc, .slice vo' vn' vc'] 38)
        obtain ⟨W8, hW8⟩ : ∃ W8, W8 = w8.alloc (.cells #[.slice vo vn vc, .slice vo' vn' vc'] 38) := ⟨_, rfl⟩
        have n8 : Blk W8 w8.heap.size #[.slice vo vn vc, .slice vo' vn' vc'] 38 := by rw [hW8]; exact Blk.new _ _ _
        rw [← hW8] at g8
        have Y78 := Lib.hid ((Y7.out.later b8).later g8.below)
        have k7 := (N7.out.later b8).later g8.below
        have Y8 := Lib.hid (y8.tr.later g8.below)
        have L8 := Lib.hid (below_later (below_later L7.out b8) g8.below)
        have c0 := k7.cell 0
        have c1 := k7.cell 1
        have c2 := n8.cell 0
        have c3 := n8.cell 1
        have l7 := k7.lt
        have l8 := n8.lt
        simp only [List.getElem?_toArray, List.getElem?_cons_zero, List.getElem?_cons_succ] at c0 c1 c2 c3
        have gA := Gr.alloc W8 (.cells #[.slice xo xn xc, .slice xo' xn' xc'] 38)
        have gB := Gr.alloc (W8.alloc (.cells #[.slice xo xn xc, .slice xo' xn' xc'] 38)) (.cells #[.slice vo vn vc, .slice vo' vn' vc'] 38)
        have HSA := Lib.hid (same11_any _ _ [joinT old [a, joinT false [bb, cc]]] [joinT old [a, joinT false [bb, cc]]] _ (segT_one ((Blk.new W8 _ _).alloc (.cells #[.slice vo vn vc, .slice vo' vn' vc'] 38)) ((Y78.out.later gA.below).later gB.below)) (segT_one (Blk.new1 W8 (.cells #[.slice xo xn xc, .slice xo' xn' xc'] 38) _ _) ((Y8.out.later gA.below).later gB.below)) true (decide_eq_true rfl).symm)
        have L9 := Lib.hid (below_later (below_later L8.out gA.below) gB.below)
        clear y8 b8 g8 n8 k7 HJ4 gA gB
        go_upto_region 13 with (fail)
        rw [← hW8]
        clear hW8
        go_wp2_with fail
        refine HSA.out.mono ?_
        rintro e w9 ⟨rfl, g9⟩
        have L10 := Lib.hid (below_later L9.out g9.below)
        clear g9 HSA
        go_wp2
        go_ret
        exact ⟨rfl, L10.out⟩
    · have e1 : ckT L = 210 := ckT_no hg
      rw [e1]
      clear e1 hg h3
      go_wp2
      go_ret
      exact ⟨rfl, L3.out⟩
end Go.Proofs.Ytcapmhmlipmciaa

