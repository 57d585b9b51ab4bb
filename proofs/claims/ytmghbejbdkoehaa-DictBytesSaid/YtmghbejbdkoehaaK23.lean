/- The reference's Right; law 06's same and none. -/
import Derived.Test.YtmghbejbdkoehaaK22
import Derived.Test.YtmghbejbdkoehaaMe
import Derived.Test.YtmghbejbdkoehaaMn
namespace Go.Proofs.Ytmghbejbdkoehaa
open Go.RowKit Go.Proofs.Kit Go.Shelf

set_option maxRecDepth 100000 in
set_option maxHeartbeats 4000000 in
theorem eright_any (a b : Nat → Value) (T : Nat → List ByteArray) (S : Nat → List Int) (w : World) (h : DSl w a b T S) (hL : DLim T S) (r : Bool) (hr : r = true ↔ DGood hsh T S) :
    Calls Try.prog 12 #[.agg (dcs a b)] w fun e w' => e = .returned (.bool r) ∧ Below w.heap.size w w' := by
  rw [dgood_iff] at hr
  have HS := Lib.hid h
  have HL := Lib.hid hL
  have HR := Lib.hid hr
  have HIX := Lib.hid (index_kinds a b)
  clear h hL hr
  simp only [dcs]
  obtain ⟨W1, hW1⟩ : ∃ W1, W1 = w.alloc (.cells (dcs a b) 28) := ⟨_, rfl⟩
  have e1 : w.alloc (.cells #[a 0, b 0, a 1, b 1, a 2, b 2, a 3, b 3, a 4, b 4] 28) = W1 := by rw [hW1]; rfl
  have k0 : Blk W1 w.heap.size (dcs a b) 28 := by rw [hW1]; exact Blk.new w _ _
  have g1 : Gr w W1 := by rw [hW1]; exact Gr.alloc _ _
  clear hW1
  obtain ⟨c0, c1, c2, c3, c4, c5, c6, c7, c8, c9⟩ := dcells k0
  have G1 := Lib.hid g1
  clear k0 g1
  go_enter Try.func12, Try.ntmps12
  go_wp2
  clear c0 c1 c2 c3 c4 c5 c6 c7 c8 c9 e1
  go_loopw [3, 4, 6, 9] (fun _ _ _ i wr => ∃ j : Nat, j ≤ 5 ∧ i = .int .i64 (j : Int) ∧ Gr W1 wr ∧ Hid (∀ k, k < j → KGood hsh T S k)) (fun _ _ _ i _ => 5 - (intOf i).toNat)
  case atStart => exact ⟨0, by omega, rfl, Gr.refl _, Lib.hid fun k h => by omega⟩
  case round =>
    obtain ⟨j, hj, rfl, hG, hall⟩ := hrel
    by_cases hlt : j < 5
    · have hx := HIX.out j hlt
      have hsl := (HS.out j)
      obtain ⟨oa, ca, ea, _, _, aa⟩ := hsl.1.mshape
      obtain ⟨ob, cb, eb, _⟩ := hsl.2.mshape
      have hT := hsl.1
      have hS := hsl.2
      have hL1 := HL.out.t j
      have hL2 := HL.out.s j
      have hZ := HL.out.z j
      rw [ea, eb] at hx
      rw [ea] at hT
      rw [eb] at hS
      obtain ⟨n, hnn⟩ : ∃ n, n = (T j).length := ⟨_, rfl⟩
      rw [← hnn] at hL1 hT hx
      obtain ⟨bR, hbR⟩ := bool_of (Kit.Good hsh (T j) (S j))
      have g2 := G1.out.trans hG
      obtain ⟨W2, hW2⟩ : ∃ W2, W2 = wr.alloc (.cells #[.slice oa n ca, .slice ob (S j).length cb] 25) := ⟨_, rfl⟩
      have g3 : Gr wr W2 := by rw [hW2]; exact Gr.alloc _ _
      have k2 : Blk W2 wr.heap.size #[.slice oa n ca, .slice ob (S j).length cb] 25 := by rw [hW2]; exact Blk.new _ _ _
      have e2 := hW2.symm
      clear hW2
      have hcall := right_any _ _ (T j) (S j) W2 ((hT.gr g2).gr g3) ((hS.gr g2).gr g3) (by omega) (by omega) hZ bR hbR
      have c0 := k2.cell 0
      have c1 := k2.cell 1
      simp only [List.getElem?_toArray, List.getElem?_cons_zero, List.getElem?_cons_succ] at c0 c1
      have HC := Lib.hid hcall
      have HBR := Lib.hid hbR
      have HNN := Lib.hid hnn
      have HZ := Lib.hid hZ
      have AA := Lib.hid aa
      have K2 := Lib.hid k2
      have G3 := Lib.hid (hG.trans g3)
      have hlt' : (j : Int) < 5 := by omega
      clear hcall hbR hnn hZ aa k2 hT hS hsl ea eb g2 g3 hG HIX
      go_wp2_with fail
      refine HC.out.mono ?_
      rintro e w3 ⟨rfl, h3⟩
      have k3 := K2.out.gr h3
      have c0 := k3.cell 0
      simp only [List.getElem?_toArray, List.getElem?_cons_zero] at c0
      have G4 := Lib.hid (G3.out.trans h3)
      have hB0 := (G1.out.trans G4.out).below
      clear c1 k3 h3 HC e2
      cases bR
      · obtain rfl := bF HR.out (fun e => by have := HBR.out.2 (e j hlt).1; cases this)
        go_wp2
        go_ret
        exact ⟨rfl, hB0⟩
      · by_cases h128 : 128 < n
        · have g1 : decide ((128 : Int) < (n : Int)) = true := by simp; omega
          obtain rfl := bF HR.out (fun e => by have := (e j hlt).2.1; rw [← HNN.out] at this; omega)
          go_wp2
          go_ret
          exact ⟨rfl, hB0⟩
        · have g1 : decide ((128 : Int) < (n : Int)) = false := by simp; omega
          have HB0 := Lib.hid hB0
          clear hB0
          go_wp2
          go_loopw [6, 25] (fun _ i wr => ∃ m : Nat, m ≤ n ∧ i = .int .i64 (m : Int) ∧ wr = w3 ∧ Hid (∀ s ∈ (T j).take m, mayB (j : Int) s = true)) (fun _ i _ => n - (intOf i).toNat)
          case atStart => exact ⟨0, by omega, rfl, rfl, Lib.hid (by simp)⟩
          case round =>
            obtain ⟨m, hm, rfl, hwr, hin⟩ := hrel
            subst hwr
            by_cases hlt2 : m < n
            · have hjl : m < (T j).length := by have := HNN.out; omega
              obtain ⟨bT, fT, rfl, hbT, hcT⟩ := AA.out.resolve_left (fun e => by rw [e] at hjl; simp at hjl)
              have d1 := (HB0.out.cell (p := ⟨bT, fT + m, none⟩) hbT).trans (hcT m hjl)
              have htk := List.take_succ_eq_append_getElem hjl
              have hz := HZ.out _ (List.getElem_mem hjl)
              have hmem := List.getElem_mem hjl
              obtain ⟨s, hs⟩ : ∃ s, s = (T j)[m] := ⟨_, rfl⟩
              rw [← hs] at d1 htk hz hmem
              have HTK := Lib.hid htk
              have HME := Lib.hid hmem
              have HM := Lib.hid (emay_any (j : Int) s hz)
              clear hs hcT htk hmem hjl hz AA
              go_wp2_with fail
              refine (HM.out _).mono ?_
              rintro e w4 ⟨rfl, rfl⟩
              cases hmb : mayB (j : Int) s
              · obtain rfl := bF HR.out (fun e => by have := (e j hlt).2.2 s HME.out; rw [hmb] at this; cases this)
                clear hmb
                go_wp2
                go_ret
                exact ⟨rfl, HB0.out⟩
              · have HMB := Lib.hid hmb
                clear hmb
                go_wp2
                go_roundw
                case rel =>
                  refine ⟨m + 1, by omega, by go_num, by trivial, Lib.hid ?_⟩
                  rw [HTK.out]
                  intro x hx
                  rcases List.mem_append.1 hx with hx | hx
                  · exact hin.out x hx
                  · obtain rfl : x = s := by simpa using hx
                    exact HMB.out
                case measure => simp [intOf]; omega
            · have hfin : (T j).take m = T j := List.take_of_length_le (by have := HNN.out; omega)
              have h2 := hin.out
              rw [hfin] at h2
              have H2 := Lib.hid h2
              clear h2 hfin
              go_wp2
              go_roundw
              case rel =>
                refine ⟨j + 1, by omega, by go_num, G4.out, Lib.hid fun k hk => ?_⟩
                by_cases hkj : k < j
                · exact hall.out k hkj
                · obtain rfl : k = j := by omega
                  exact ⟨HBR.out.1 (by trivial), by rw [← HNN.out]; omega, H2.out⟩
              case measure => simp [intOf]; omega
    · obtain rfl : j = 5 := by omega
      obtain rfl := bT HR.out hall.out
      go_wp2
      go_ret
      exact ⟨rfl, (G1.out.trans hG).below⟩

set_option maxRecDepth 100000 in
set_option maxHeartbeats 4000000 in
theorem same6_any (a b c d : Nat → Value) (T T' : Nat → List ByteArray) (S S' : Nat → List Int) (w : World) (h : DSl w a b T S) (h' : DSl w c d T' S') (r : Bool) (hr : r = true ↔ ∀ k, k < 5 → T k = T' k ∧ S k = S' k) :
    Calls Try.prog 20 #[.agg (dcs a b), .agg (dcs c d)] w fun e w' => e = .returned (.bool r) ∧ Below w.heap.size w w' := by
  have HS := Lib.hid h
  have HS' := Lib.hid h'
  have HR := Lib.hid hr
  have HIX := Lib.hid (index_kinds a b)
  have hmix := mixed
  clear h h' hr
  simp only [dcs]
  obtain ⟨W1, hW1⟩ : ∃ W1, W1 = (w.alloc (.cells (dcs a b) 28)).alloc (.cells (dcs c d) 28) := ⟨_, rfl⟩
  have e1 : (w.alloc (.cells #[a 0, b 0, a 1, b 1, a 2, b 2, a 3, b 3, a 4, b 4] 28)).alloc (.cells #[c 0, d 0, c 1, d 1, c 2, d 2, c 3, d 3, c 4, d 4] 28) = W1 := by rw [hW1]; rfl
  have k0 : Blk W1 w.heap.size (dcs a b) 28 := by rw [hW1]; exact (Blk.new w _ _).alloc _
  have k1 : Blk W1 (w.heap.size + 1) (dcs c d) 28 := by rw [hW1]; have := Blk.new (w.alloc (.cells (dcs a b) 28)) (dcs c d) 28; simpa using this
  have g1 : Gr w W1 := by rw [hW1]; exact (Gr.alloc _ _).trans (Gr.alloc _ _)
  clear hW1
  obtain ⟨c0, c1, c2, c3, c4, c5, c6, c7, c8, c9⟩ := dcells k0
  have G1 := Lib.hid g1
  have K1 := Lib.hid k1
  clear k0 g1 k1
  go_enter Try.func20, Try.ntmps20
  go_wp2
  clear c0 c1 c2 c3 c4 c5 c6 c7 c8 c9 e1
  go_loopw [5, 6, 9] (fun _ _ i wr => ∃ j : Nat, j ≤ 5 ∧ i = .int .i64 (j : Int) ∧ Gr W1 wr ∧ Hid (∀ k, k < j → T k = T' k ∧ S k = S' k)) (fun _ _ i _ => 5 - (intOf i).toNat)
  case atStart => exact ⟨0, by omega, rfl, Gr.refl _, Lib.hid fun k h => by omega⟩
  case round =>
    obtain ⟨j, hj, rfl, hG, hall⟩ := hrel
    by_cases hlt : j < 5
    · have hx := HIX.out j hlt
      have hsl := (HS.out j)
      have hsl' := (HS'.out j)
      obtain ⟨oa, ca, ea, _⟩ := hsl.1.mshape
      obtain ⟨ob, cb, eb, _⟩ := hsl.2.mshape
      obtain ⟨oc, cc, ec, _⟩ := hsl'.1.mshape
      obtain ⟨od, cd, ed, _⟩ := hsl'.2.mshape
      have g2 := G1.out.trans hG
      rw [ea, eb] at hx
      obtain ⟨W2, hW2⟩ : ∃ W2, W2 = wr.alloc (.cells #[.slice oa (T j).length ca, .slice ob (S j).length cb] 25) := ⟨_, rfl⟩
      have g3 : Gr wr W2 := by rw [hW2]; exact Gr.alloc _ _
      have k2 : Blk W2 wr.heap.size #[.slice oa (T j).length ca, .slice ob (S j).length cb] 25 := by rw [hW2]; exact Blk.new _ _ _
      have e2 := hW2.symm
      clear hW2
      have g4 := hG.trans g3
      have c0 := k2.cell 0
      have c1 := k2.cell 1
      have d0 := ((K1.out.gr g4).cell (j * 2)).trans (dcs_fst c d hlt)
      have d1 := ((K1.out.gr g4).cell (j * 2 + 1)).trans (dcs_snd c d hlt)
      rw [ec] at d0
      rw [ed] at d1
      simp only [List.getElem?_toArray, List.getElem?_cons_zero, List.getElem?_cons_succ] at c0 c1
      have q1 := fun m : Nat => equals_sl _ _ (T j) (T' j) (W2.drewN m) (((hsl.1.gr g2).gr g3).gr (Gr.drewN _ _)) (((hsl'.1.gr g2).gr g3).gr (Gr.drewN _ _))
      have q2 := fun m : Nat => equali_sl _ _ (S j) (S' j) (W2.drewN m) (((hsl.2.gr g2).gr g3).gr (Gr.drewN _ _)) (((hsl'.2.gr g2).gr g3).gr (Gr.drewN _ _))
      rw [ea, ec] at q1
      rw [eb, ed] at q2
      have Q1 := Lib.hid q1
      have Q2 := Lib.hid q2
      have hlt' : (j : Int) < 5 := by omega
      have G4 := Lib.hid g4
      clear hsl hsl' ea eb ec ed g2 g3 g4 hG HIX q1 q2 k2
      by_cases hTT : T j = T' j
      · rw [decide_eq_true hTT] at Q1
        by_cases hSS : S j = S' j
        · rw [decide_eq_true hSS] at Q2
          have HB := Lib.hid (And.intro hTT hSS)
          clear hTT hSS
          go_wp2
          go_quiet (first | (go_at_call 22; exact Calls.quiet_of (Q1.out _)) | (go_at_call 47; exact Calls.quiet_of (Q2.out _)))

          go_wp2
          go_roundw
          case rel =>
            refine ⟨j + 1, by omega, by go_num, G4.out.trans (Gr.drewN _ _), Lib.hid fun k hk => ?_⟩
            by_cases hkj : k < j
            · exact hall.out k hkj
            · obtain rfl : k = j := by omega
              exact HB.out
          case measure => simp [intOf]; omega
        · rw [decide_eq_false hSS] at Q2
          obtain rfl := bF HR.out (fun e => hSS (e j hlt).2)
          clear hTT hSS
          go_wp2
          go_quiet (first | (go_at_call 22; exact Calls.quiet_of (Q1.out _)) | (go_at_call 47; exact Calls.quiet_of (Q2.out _)))
          go_wp2
          go_ret
          exact ⟨rfl, (G1.out.trans (G4.out.trans (Gr.drewN _ _))).below⟩
      · rw [decide_eq_false hTT] at Q1
        obtain rfl := bF HR.out (fun e => hTT (e j hlt).1)
        clear hTT
        go_wp2
        go_quiet (first | (go_at_call 22; exact Calls.quiet_of (Q1.out _)) | (go_at_call 47; exact Calls.quiet_of (Q2.out _)))
        go_wp2
        go_ret
        exact ⟨rfl, (G1.out.trans (G4.out.trans (Gr.drewN _ _))).below⟩
    · obtain rfl : j = 5 := by omega
      obtain rfl := bT HR.out hall.out
      go_wp2
      go_ret
      exact ⟨rfl, (G1.out.trans hG).below⟩
end Go.Proofs.Ytmghbejbdkoehaa

