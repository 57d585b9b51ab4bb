/- DictBack: Read of Bytes is the same, whatever stands ahead, or behind. -/
import Derived.Test.YtmghbejbdkoehaaK17
import Derived.Test.YtmghbejbdkoehaaK18
import Derived.Test.YtmghbejbdkoehaaK19
namespace Go.Proofs.Ytmghbejbdkoehaa
open Go.RowKit Go.Proofs.Kit Go.Shelf

theorem own_lim {T : Nat → List ByteArray} {S : Nat → List Int} (hz : ∀ k, ∀ s ∈ T k, s.size ≤ 9223372036854775807) : DLim (fst (cutT T) 5) (fst (cutS6 S) 5) := by
  refine ⟨fun k => ?_, fun k => ?_, fun k s hs => ?_⟩
  · unfold fst cutT; split <;> simp; omega
  · unfold fst cutS6; split <;> simp; omega
  · unfold fst cutT at hs
    split at hs
    · exact hz k s (List.mem_of_mem_take hs)
    · cases hs
set_option maxRecDepth 100000 in
set_option maxHeartbeats 4000000 in
theorem back6_true (a b : Nat → Value) (T : Nat → List ByteArray) (S : Nat → List Int) (oA oB : Option Addr) (nA cA nB cB : Nat) (lA lB : List Int) (w : World) (hx : DArg w a b T S) (hz : ∀ k, ∀ s ∈ T k, s.size ≤ 9223372036854775807)
    (aA : ArgI .u8 w oA cA lA) (hA : lA.length = nA) (hAc : nA ≤ cA) (bA : Byt lA) (aB : ArgI .u8 w oB cB lB) (hB : lB.length = nB) (hBc : nB ≤ cB) (bB : Byt lB) :
    Calls Try.prog 7 #[.agg (dcs a b), .slice oA nA cA, .slice oB nB cB] w fun e w' => e = .returned (.bool true) ∧ Below w.heap.size w w' := by
  have hmix := mixed
  have HX := Lib.hid hx
  have LIM := Lib.hid (own_lim (S := S) hz)
  have AA := Lib.hid aA
  have AB := Lib.hid aB
  have LA := Lib.hid hA
  have LB := Lib.hid hB
  have BA := Lib.hid bA
  have BB := Lib.hid bB
  clear hx hz aA aB hA hB bA bB
  simp only [dcs]
  obtain ⟨X0, hX0⟩ : ∃ X0, X0 = w.alloc (.cells (dcs a b) 28) := ⟨_, rfl⟩
  have e0 : w.alloc (.cells #[a 0, b 0, a 1, b 1, a 2, b 2, a 3, b 3, a 4, b 4] 28) = X0 := hX0.symm
  have k0 : Blk X0 w.heap.size (dcs a b) 28 := by rw [hX0]; exact Blk.new _ _ _
  have g0 : Below w.heap.size w X0 := by rw [hX0]; exact (Gr.alloc _ _).below
  clear hX0
  go_enter Try.func7, Try.ntmps7
  go_wp2_with fail
  refine (wakes6_any X0).mono ?_
  rintro e w1 ⟨rfl, h1⟩
  have k1 := k0.later h1
  have b1 := g0.trans (h1.mono g0.size)
  obtain ⟨c0, c1, c2, c3, c4, c5, c6, c7, c8, c9⟩ := dcells k1
  have HX1 : DArg w1 a b T S := ⟨fun k => by obtain ⟨o, c, e, h1, h2, h3⟩ := HX.out.t k; exact ⟨o, c, e, h1, h2, h3.later b1⟩, fun k => by obtain ⟨o, c, e, h1, h2, h3⟩ := HX.out.s k; exact ⟨o, c, e, h1, h2, h3.later b1⟩⟩
  have HX1 := Lib.hid HX1
  clear e0 k0 g0 h1 k1 HX
  go_wp2_with fail
  clear c0 c1 c2 c3 c4 c5 c6 c7 c8 c9
  refine (own6_any a b T S w1 HX1.out).mono ?_
  rintro e w2 ⟨A, B, rfl, hO, h2⟩
  obtain ⟨T1, hT1⟩ : ∃ T1, T1 = fst (cutT T) 5 := ⟨_, rfl⟩
  obtain ⟨S1, hS1⟩ : ∃ S1, S1 = fst (cutS6 S) 5 := ⟨_, rfl⟩
  rw [← hT1, ← hS1] at hO LIM
  obtain ⟨X2, hX2⟩ : ∃ X2, X2 = w2.alloc (.cells (dcs A B) 28) := ⟨_, rfl⟩
  have eX2 : w2.alloc (.cells #[A 0, B 0, A 1, B 1, A 2, B 2, A 3, B 3, A 4, B 4] 28) = X2 := hX2.symm
  have k2 : Blk X2 w2.heap.size (dcs A B) 28 := by rw [hX2]; exact Blk.new _ _ _
  have g2 : Below w2.heap.size w2 X2 := by rw [hX2]; exact (Gr.alloc _ _).below
  obtain ⟨sa, sb⟩ := hO.slA
  have hsa := fun k w p m => st_slice (P := Try.prog) sa k w p m
  have hsb := fun k w p m => st_slice (P := Try.prog) sb k w p m
  have b2 := b1.trans (h2.mono b1.size)
  have b3 := b2.trans (g2.mono b2.size)
  obtain ⟨c0, c1, c2, c3, c4, c5, c6, c7, c8, c9⟩ := dcells k2
  have O2 := Lib.hid (hO.later g2)
  have K2 := Lib.hid k2
  have B3 := Lib.hid b3
  clear hX2 hT1 hS1 hO k2 g2 sa sb b1 b2 b3 h2 HX1
  simp only [dcs]
  go_wp2_with fail
  clear hsa hsb eX2 c0 c1 c2 c3 c4 c5 c6 c7 c8 c9
  by_cases hg : DGood hsh T1 S1
  · have GG := Lib.hid hg
    clear hg
    refine (dbytes_ok A B T1 S1 X2 O2.out.sl LIM.out GG.out).mono ?_
    rintro e w3 ⟨v, rfl, ho, h3⟩
    obtain ⟨bs, hbs⟩ : ∃ bs, bs = bytesD T1 5 := ⟨_, rfl⟩
    obtain ⟨M, hM⟩ : ∃ M, M = bs.length := ⟨_, rfl⟩
    have hbl : M ≤ 50000 := by rw [hM, hbs]; exact bytesD_len40 GG.out 5 (by decide)
    have hby : Byt bs := by rw [hbs]; exact bytesD_byt _ _
    rw [← hbs] at ho
    obtain ⟨ov, cv, ev⟩ := ho.shape
    rw [List.length_map, ← hM] at ev
    subst ev
    obtain ⟨mA, hmA⟩ : ∃ m, m = min nA 50 := ⟨_, rfl⟩
    obtain ⟨mB, hmB⟩ : ∃ m, m = min nB 50 := ⟨_, rfl⟩
    have hm1 : (if (50 : Int) < (nA : Int) then (50 : Int) else (nA : Int)) = ((mA : Nat) : Int) := by rw [hmA]; split <;> omega
    have hm2 : (if (50 : Int) < (nB : Int) then (50 : Int) else (nB : Int)) = ((mB : Nat) : Int) := by rw [hmB]; split <;> omega
    have hmAc : mA ≤ cA := by omega
    have hmBc : mB ≤ cB := by omega
    have hmA5 : mA ≤ 50 := by omega
    have hmB5 : mB ≤ 50 := by omega
    have K3 := Lib.hid (K2.out.later h3)
    have O3 := Lib.hid (O2.out.later h3)
    have B4 := Lib.hid (B3.out.trans (h3.mono B3.out.size))
    have V3 := Lib.hid ho
    have HBS := Lib.hid hbs
    have HM := Lib.hid hM
    have HBY := Lib.hid hby
    have AA2 := Lib.hid (AA.out.take mA)
    have AB2 := Lib.hid (AB.out.take mB)
    have LA2 : Hid (mA = (lA.take mA).length) := Lib.hid (by rw [List.length_take, LA.out]; omega)
    have LB2 : Hid (mB = (lB.take mB).length) := Lib.hid (by rw [List.length_take, LB.out]; omega)
    clear ho hbs hM hby K2 O2 B3 h3 hmA hmB
    go_wp2
    go_region
    go_wp2_with fail
    clear hm1 hm2
    obtain ⟨W4, hW4⟩ : ∃ W4, W4 = (w3.alloc (.cells #[.slice oA mA cA, .slice ov M cv, .slice oB mB cB] 59)).drew := ⟨_, rfl⟩
    have g4 : Below w3.heap.size w3 W4 := by rw [hW4]; exact ((Gr.alloc w3 _).trans (Gr.drew _)).below
    have kb : Blk W4 w3.heap.size #[.slice oA mA cA, .slice ov M cv, .slice oB mB cB] 59 := by rw [hW4]; exact (Blk.new w3 _ _).drew
    rw [← hW4]
    clear hW4
    obtain ⟨o', c', e', aL⟩ := seg_argI (V3.out.owns.seg)
    rw [← HM.out] at e'
    injection e' with e1 e2 e3
    subst e1
    subst e3
    have b5 := B4.out.trans (g4.mono B4.out.size)
    refine (concata3 w3.heap.size oA ov oB mA M mB cA cv cB (lA.take mA) bs (lB.take mB) W4 kb (AA2.out.later b5) LA2.out (aL.later g4) HM.out (AB2.out.later b5) LB2.out (by omega) (by omega) (by omega)).mono ?_
    rintro e w5 ⟨v5, rfl, ho5, h5⟩
    obtain ⟨big, hbig⟩ : ∃ big, big = lA.take mA ++ bs ++ lB.take mB := ⟨_, rfl⟩
    rw [← hbig] at ho5
    have hbyt : Byt big := by
      rw [hbig]
      intro x hx
      rcases List.mem_append.1 hx with hx | hx
      · rcases List.mem_append.1 hx with hx | hx
        · exact BA.out x (List.mem_of_mem_take hx)
        · exact HBY.out x hx
      · exact BB.out x (List.mem_of_mem_take hx)
    have hlen : big.length = mA + M + mB := by rw [hbig, List.length_append, List.length_append, ← LA2.out, ← HM.out, ← LB2.out]
    have hdr : big.drop mA = bytesD T1 5 ++ lB.take mB := by
      rw [hbig, ← HBS.out, List.append_assoc]
      exact List.drop_left' LA2.out.symm
    obtain ⟨L, hrd, hL⟩ := rdDict_at GG.out hdr
    rw [← HBS.out, ← HM.out] at hrd
    obtain ⟨o5, c5, e5⟩ := ho5.shape
    subst e5
    have K5 := Lib.hid ((K3.out.later g4).later h5)
    have O5 := Lib.hid ((O3.out.later g4).later h5)
    have V5 := Lib.hid ((V3.out.later g4).later h5)
    have B6 := Lib.hid (b5.trans (h5.mono b5.size))
    have W5 := Lib.hid ho5
    have HBYT := Lib.hid hbyt
    have HLEN := Lib.hid hlen
    have HRD := Lib.hid hrd
    have HL := Lib.hid hL
    clear K3 O3 B4 V3 g4 kb aL b5 h5 ho5 hbyt hlen hdr hrd hL hbig e2
    go_wp2_with fail
    refine (dread_any mA _ big w5 W5.out.seg HBYT.out (by rw [HLEN.out]; omega) (by rw [HLEN.out]; omega)).mono ?_
    rintro e w6 hR
    cases hR with
    | no _ h _ => rw [HRD.out] at h; cases h
    | ok _ L' q S5 A5 B5 h ho6 hg6 hl6 hb6 =>
      rw [HRD.out] at h
      injection h with h
      injection h with h1 h2
      subst h1
      subst h2
      obtain ⟨sa, sb⟩ := ho6.slA
      have hsa := fun k w p m => st_slice (P := Try.prog) sa k w p m
      have hsb := fun k w p m => st_slice (P := Try.prog) sb k w p m
      obtain ⟨X6, hX6⟩ : ∃ X6, X6 = w6.alloc (.cells (dcs A5 B5) 28) := ⟨_, rfl⟩
      have k6 : Blk X6 w6.heap.size (dcs A5 B5) 28 := by rw [hX6]; exact Blk.new _ _ _
      have g6 : Below w6.heap.size w6 X6 := by rw [hX6]; exact (Gr.alloc _ _).below
      have eX6 : w6.alloc (.cells #[A5 0, B5 0, A5 1, B5 1, A5 2, B5 2, A5 3, B5 3, A5 4, B5 4] 28) = X6 := hX6.symm
      have g56 : Below w5.heap.size w5 X6 := hb6.trans (g6.mono hb6.size)
      obtain ⟨c0, c1, c2, c3, c4, c5, c6, c7, c8, c9⟩ := dcells (K5.out.later g56)
      obtain ⟨d0, d1, d2, d3, d4, d5, d6, d7, d8, d9⟩ := dcells k6
      have K6 := Lib.hid k6
      have K7 := Lib.hid (K5.out.later g56)
      have O6 := Lib.hid (ho6.later g6)
      have O7 := Lib.hid (O5.out.later g56)
      have B7 := Lib.hid (B6.out.trans (g56.mono B6.out.size))
      have HG6 := Lib.hid hg6
      have HL6 := Lib.hid hl6
      have q1 : IntKind.i64.wrap ((mA : Int) + (M : Int)) = ((mA + M : Nat) : Int) := by rw [IntKind.wrap_i64]; omega
      clear hX6 k6 g6 g56 sa sb ho6 hb6 hg6 hl6 K5 O5 B6 W5 V5
      simp only [dcs]
      go_wp2_with fail
      clear hsa hsb eX6 c0 c1 c2 c3 c4 c5 c6 c7 c8 c9 d0 d1 d2 d3 d4 d5 d6 d7 d8 d9
      refine (dsame_any A5 B5 A B (ofL L) T1 S5 S1 X6 O6.out.sl O7.out.sl true (by simp only [true_iff]; exact HL.out)).mono ?_
      rintro e w7 ⟨rfl, h7⟩
      obtain ⟨d0, d1, d2, d3, d4, d5, d6, d7, d8, d9⟩ := dcells (K6.out.later h7)
      go_wp2_with fail
      clear d0 d1 d2 d3 d4 d5 d6 d7 d8 d9
      refine (dcheck_any A5 B5 (ofL L) S5 w7 (O6.out.later h7).sl HL6.out 0 (.inl ⟨HG6.out, rfl⟩)).mono ?_
      rintro e w8 ⟨rfl, h8⟩
      have b8 := (B7.out.trans (h7.mono B7.out.size))
      have B8 := Lib.hid (b8.trans (h8.mono b8.size))
      clear b8 h7 h8 K6 K7 O6 O7 B7 HG6 HL6 q1
      go_wp2_with fail
      obtain ⟨W9, hW9⟩ : ∃ W9, W9 = w8.alloc (.cells #[.slice oB mB cB, .slice oA mA cA] 59) := ⟨_, rfl⟩
      have g9 : Below w8.heap.size w8 W9 := by rw [hW9]; exact (Gr.alloc _ _).below
      have kb : Blk W9 w8.heap.size #[.slice oB mB cB, .slice oA mA cA] 59 := by rw [hW9]; exact Blk.new _ _ _
      rw [← hW9]
      clear hW9
      have b9 := B8.out.trans (g9.mono B8.out.size)
      refine (concata2 w8.heap.size oB oA mB mA cB cA (lB.take mB) (lA.take mA) W9 kb (AB2.out.later b9) LB2.out (AA2.out.later b9) LA2.out (by omega) (by omega)).mono ?_
      rintro e w10 ⟨v10, rfl, ho10, h10⟩
      obtain ⟨tb, htb⟩ : ∃ tb, tb = lB.take mB ++ lA.take mA := ⟨_, rfl⟩
      rw [← htb] at ho10
      have hbyt : Byt tb := by
        rw [htb]
        intro x hx
        rcases List.mem_append.1 hx with hx | hx
        · exact BB.out x (List.mem_of_mem_take hx)
        · exact BA.out x (List.mem_of_mem_take hx)
      have hlen : tb.length = mB + mA := by rw [htb, List.length_append, ← LA2.out, ← LB2.out]
      obtain ⟨o10, c10, e10⟩ := ho10.shape
      obtain ⟨N, hN⟩ : ∃ N, N = tb.length := ⟨_, rfl⟩
      rw [← hN] at e10
      subst e10
      have B10 := Lib.hid (b9.trans (h10.mono b9.size))
      have V10 := Lib.hid ho10
      have HBYT2 := Lib.hid hbyt
      have HLEN2 := Lib.hid hlen
      have HN := Lib.hid hN
      clear b9 h10 ho10 hbyt hlen hN htb B8 g9 kb
      go_wp2_with fail
      refine (dread_any 0 _ tb w10 V10.out.seg HBYT2.out (by rw [HLEN2.out]; omega) (Nat.zero_le _)).mono ?_
      rintro e w11 hR
      cases hR with
      | no _ h hb11 =>
        have g11 : Below w11.heap.size w11 (w11.alloc (.cells #[.slice none 0 0, .slice none 0 0, .slice none 0 0, .slice none 0 0, .slice none 0 0, .slice none 0 0, .slice none 0 0, .slice none 0 0, .slice none 0 0, .slice none 0 0] 28)) := (Gr.alloc _ _).below
        have b11 := B10.out.trans (hb11.mono B10.out.size)
        have B11 := Lib.hid (b11.trans (g11.mono b11.size))
        clear b11 g11 hb11
        simp only [dcs, nilV]
        go_wp2
        go_ret
        exact ⟨rfl, B11.out⟩
      | ok _ L2 q2 S6 A6 B6' h ho11 hg11 hl11 hb11 =>
        obtain ⟨hb1, hb2⟩ := rdDict_back HBYT2.out h
        obtain ⟨sa, sb⟩ := ho11.slA
        have hsa := fun k w p m => st_slice (P := Try.prog) sa k w p m
        have hsb := fun k w p m => st_slice (P := Try.prog) sb k w p m
        obtain ⟨X6, hX6⟩ : ∃ X6, X6 = w11.alloc (.cells (dcs A6 B6') 28) := ⟨_, rfl⟩
        have k6 : Blk X6 w11.heap.size (dcs A6 B6') 28 := by rw [hX6]; exact Blk.new _ _ _
        have g6 : Below w11.heap.size w11 X6 := by rw [hX6]; exact (Gr.alloc _ _).below
        have eX6 : w11.alloc (.cells #[A6 0, B6' 0, A6 1, B6' 1, A6 2, B6' 2, A6 3, B6' 3, A6 4, B6' 4] 28) = X6 := hX6.symm
        obtain ⟨d0, d1, d2, d3, d4, d5, d6, d7, d8, d9⟩ := dcells k6
        have g16 : Below w10.heap.size w10 X6 := hb11.trans (g6.mono hb11.size)
        have O11 := Lib.hid (ho11.later g6)
        have V11 := Lib.hid (V10.out.later g16)
        have B11 := Lib.hid (B10.out.trans (g16.mono B10.out.size))
        have HG11 := Lib.hid hg11
        have HL11 := Lib.hid hl11
        have HB1 := Lib.hid hb1
        have hq2 : q2 ≤ N := by rw [HN.out]; exact hb2
        clear hX6 k6 g6 g16 sa sb ho11 hg11 hl11 hb11 hb1 hb2 h V10 B10
        simp only [dcs]
        go_wp2_with fail
        clear hsa hsb eX6 d0 d1 d2 d3 d4 d5 d6 d7 d8 d9
        refine (dbytes_ok A6 B6' (ofL L2) S6 X6 O11.out.sl HL11.out HG11.out).mono ?_
        rintro e w12 ⟨v12, rfl, ho12, h12⟩
        obtain ⟨o12, c12, e12⟩ := ho12.shape
        obtain ⟨N2, hN2⟩ : ∃ N2, N2 = (List.map (Value.int .u8) (bytesD (ofL L2) 5)).length := ⟨_, rfl⟩
        rw [← hN2] at e12
        subst e12
        have hcc : N ≤ c10 := by
          rcases V11.out.2 with ⟨h, h0⟩ | ⟨g, cap, cur, h, _, _, hc, _⟩
          · injection h with _ h1 h2; omega
          · injection h with _ h1 h2; omega
        have hqc : q2 ≤ c10 := Nat.le_trans hq2 hcc
        go_wp2_with fail
        have s12 : Seg .u8 w12 (.slice o12 (bytesD (ofL L2) 5).length c12) (bytesD (ofL L2) 5) := by
          have h := ho12.owns.seg
          rw [hN2, List.length_map] at h
          exact h
        have s10 : Seg .u8 w12 (.slice o10 q2 c10) (bytesD (ofL L2) 5) := by
          rw [HB1.out]
          have h := (V11.out.later h12).seg
          rw [HN.out] at h
          exact h.upto (by rw [← HN.out]; exact hq2)
        have b12 := B11.out.trans (h12.mono B11.out.size)
        refine (equalb_seg _ _ _ _ w12 s12 s10).mono ?_
        rintro e w13 ⟨he, h13⟩
        have he : e = .returned (.bool true) := by rw [he]; simp
        subst he
        go_wp2
        go_ret
        exact ⟨rfl, b12.trans (h13.mono b12.size)⟩
  · have GG := Lib.hid hg
    clear hg
    refine (dbytes_bad A B T1 S1 X2 O2.out.sl LIM.out GG.out).mono ?_
    rintro e w3 ⟨rfl, h3⟩
    have k3 := K2.out.later h3
    have b4 := B3.out.trans (h3.mono B3.out.size)
    obtain ⟨c0, c1, c2, c3, c4, c5, c6, c7, c8, c9⟩ := dcells k3
    have O3 := Lib.hid (O2.out.later h3)
    clear k3
    go_wp2_with fail
    refine (dcheck_any A B T1 S1 w3 O3.out.sl LIM.out 160 (.inr ⟨GG.out, rfl⟩)).mono ?_
    rintro e w4 ⟨rfl, h4⟩
    clear c0 c1 c2 c3 c4 c5 c6 c7 c8 c9
    go_wp2
    go_ret
    exact ⟨rfl, b4.trans (h4.mono b4.size)⟩
end Go.Proofs.Ytmghbejbdkoehaa

