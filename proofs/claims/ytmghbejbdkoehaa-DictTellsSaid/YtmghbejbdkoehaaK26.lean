/- DictTells: the ids of names, and the names of ids. -/
import Derived.Test.YtmghbejbdkoehaaK24
import Derived.Test.YtmghbejbdkoehaaK25
namespace Go.Proofs.Kit
open Go.RowKit
/-- What Names tells, and what is looked for. -/
def rowT (T : Nat → List ByteArray) (k : Int) : List ByteArray := if 0 ≤ k ∧ k < 5 then T k.toNat else []
theorem namesR_row {hs : ByteArray → Nat} {T TN : Nat → List ByteArray} {S : Nat → List Int} {k : Int} {l : List ByteArray} {r : Bool} (hr : r = true ↔ DGood hs T S) (hN : TN = if r = true then T else fun _ => []) (h : NamesR hs T S k l) : l = rowT TN k := by
  unfold rowT
  rcases h with ⟨hg, n, hn, rfl, rfl⟩ | ⟨hn, rfl⟩
  · rw [if_pos (by omega), hN, if_pos (hr.2 hg), Int.toNat_natCast]
  · by_cases h1 : DGood hs T S
    · rw [if_neg fun h2 => hn ⟨h1, h2⟩]
    · have : ¬ r = true := fun e => h1 (hr.1 e)
      rw [hN, if_neg this]
      split <;> rfl
theorem idR_idI {hs : ByteArray → Nat} {T TN : Nat → List ByteArray} {S : Nat → List Int} {k : Int} {s : ByteArray} {i : Int} {ok r : Bool} (hr : r = true ↔ DGood hs T S) (hN : TN = if r = true then T else fun _ => []) (h : IdR hs T S k s i ok) :
    (ok = true ∧ 0 ≤ i ∧ idI TN k s = i) ∨ (ok = false ∧ i = 0 ∧ idI TN k s = -1) := by
  rcases h with ⟨hg, ⟨n, hn, rfl, hm, rfl⟩, rfl⟩ | ⟨hn, rfl, rfl⟩
  · refine .inl ⟨rfl, by omega, ?_⟩
    rw [idI_in _ hn, hN, if_pos (hr.2 hg)]
    exact if_pos hm
  · refine .inr ⟨rfl, rfl, ?_⟩
    unfold idI
    split
    · rename_i hk
      refine if_neg fun hm => ?_
      rw [hN] at hm
      by_cases h1 : r = true
      · rw [if_pos h1] at hm
        exact hn ⟨hr.1 h1, k.toNat, by omega, by omega, hm⟩
      · rw [if_neg h1] at hm
        cases hm
    · rfl
end Go.Proofs.Kit
namespace Go.Proofs.Ytmghbejbdkoehaa
open Go.RowKit Go.Proofs.Kit Go.Shelf

set_option maxRecDepth 100000 in
set_option maxHeartbeats 4000000 in
theorem tells6_true (a b : Nat → Value) (T : Nat → List ByteArray) (S : Nat → List Int) (oX : Option Addr) (nX cX : Nat) (tx : List ByteArray) (oI : Option Addr) (nI cI : Nat) (is : List Int) (w : World) (hx : DArg w a b T S) (hz : ∀ k, ∀ s ∈ T k, s.size ≤ 9223372036854775807)
    (hn : tx.length = nX) (hnm : nX ≤ 9223372036854775807) (ht : ArgV w oX cX (tx.map Value.string)) (htz : ∀ s ∈ tx, s.size ≤ 9223372036854775807)
    (hi : is.length = nI) (him : nI ≤ 9223372036854775807) (hta : ArgV w oI cI (is.map (Value.int .i64))) :
    Calls Try.prog 4 #[.agg (dcs a b), .slice oX nX cX, .slice oI nI cI] w fun e w' => e = .returned (.bool true) ∧ Below w.heap.size w w' := by
  have hmix := mixed
  have HX := Lib.hid hx
  have LIM := Lib.hid (own_lim (S := S) hz)
  have HT := Lib.hid ht
  have HTZ := Lib.hid htz
  have HN := Lib.hid hn
  have HI := Lib.hid hta
  have HIN := Lib.hid hi
  clear hx hz ht htz hn hta hi
  simp only [dcs]
  obtain ⟨X0, hX0⟩ : ∃ X0, X0 = w.alloc (.cells (dcs a b) 28) := ⟨_, rfl⟩
  have e0 : w.alloc (.cells #[a 0, b 0, a 1, b 1, a 2, b 2, a 3, b 3, a 4, b 4] 28) = X0 := hX0.symm
  have k0 : Blk X0 w.heap.size (dcs a b) 28 := by rw [hX0]; exact Blk.new _ _ _
  have g0 : Below w.heap.size w X0 := by rw [hX0]; exact (Gr.alloc _ _).below
  clear hX0
  go_enter Try.func4, Try.ntmps4
  go_wp2_with fail
  refine (wakes6_any X0).mono ?_
  rintro e w1 ⟨rfl, h1⟩
  have K0 := Lib.hid (k0.later h1)
  have B1 := Lib.hid (g0.trans (h1.mono g0.size))
  have HX1 := Lib.hid (HX.out.later B1.out)
  clear e0 k0 g0 h1 HX
  obtain ⟨c0, c1, c2, c3, c4, c5, c6, c7, c8, c9⟩ := dcells K0.out
  go_wp2_with fail
  clear c0 c1 c2 c3 c4 c5 c6 c7 c8 c9
  refine (own6_any a b T S w1 HX1.out).mono ?_
  rintro e w2 ⟨A, B, rfl, hO, h2⟩
  obtain ⟨T1, hT1⟩ : ∃ T1, T1 = fst (cutT T) 5 := ⟨_, rfl⟩
  obtain ⟨S1, hS1⟩ : ∃ S1, S1 = fst (cutS6 S) 5 := ⟨_, rfl⟩
  have DT := Lib.hid hT1
  have DS := Lib.hid hS1
  rw [← hT1, ← hS1] at hO LIM
  obtain ⟨X2, hX2⟩ : ∃ X2, X2 = w2.alloc (.cells (dcs A B) 28) := ⟨_, rfl⟩
  have eX2 : w2.alloc (.cells #[A 0, B 0, A 1, B 1, A 2, B 2, A 3, B 3, A 4, B 4] 28) = X2 := hX2.symm
  have k2 : Blk X2 w2.heap.size (dcs A B) 28 := by rw [hX2]; exact Blk.new _ _ _
  have g2 : Below w2.heap.size w2 X2 := by rw [hX2]; exact (Gr.alloc _ _).below
  obtain ⟨sa, sb⟩ := hO.slA
  have hsa := fun k w p m => st_slice (P := Try.prog) sa k w p m
  have hsb := fun k w p m => st_slice (P := Try.prog) sb k w p m
  have b2 := B1.out.trans (h2.mono B1.out.size)
  have b3 := b2.trans (g2.mono b2.size)
  obtain ⟨c0, c1, c2, c3, c4, c5, c6, c7, c8, c9⟩ := dcells k2
  have O2 := Lib.hid (hO.later g2)
  have K2 := Lib.hid k2
  have K02 := Lib.hid ((K0.out.later h2).later g2)
  have HX2 := Lib.hid ((HX1.out.later h2).later g2)
  have B3 := Lib.hid b3
  obtain ⟨r, hr⟩ : ∃ r : Bool, r = true ↔ DGood hsh T1 S1 := by
    by_cases h : DGood hsh T1 S1
    · exact ⟨true, by simp [h]⟩
    · exact ⟨false, by simp [h]⟩
  have HR := Lib.hid hr
  clear hX2 hT1 hS1 hO k2 g2 sa sb b2 b3 h2 HX1 K0 B1 hr
  simp only [dcs]
  go_wp2_with fail
  clear hsa hsb eX2 c0 c1 c2 c3 c4 c5 c6 c7 c8 c9
  refine (eright_any A B T1 S1 _ O2.out.sl LIM.out r HR.out).mono ?_
  rintro e w3 ⟨rfl, h3⟩
  have O3 := Lib.hid (O2.out.later h3)
  have K3 := Lib.hid (K2.out.later h3)
  have K03 := Lib.hid (K02.out.later h3)
  have HX3 := Lib.hid (HX2.out.later h3)
  have B4 := Lib.hid (B3.out.trans (h3.mono B3.out.size))
  clear O2 K2 K02 HX2 B3 h3
  obtain ⟨X3, hX3⟩ : ∃ X3, X3 = w3.alloc (.cells (nms fun _ => nilV) 37) := ⟨_, rfl⟩
  have eX3 : w3.alloc (.cells #[.slice none 0 0, .slice none 0 0, .slice none 0 0, .slice none 0 0, .slice none 0 0] 37) = X3 := hX3.symm
  go_upto_if 31 with fail
  rw [← hX3]
  have kn : Blk X3 w3.heap.size (nms fun _ => nilV) 37 := by rw [hX3]; exact Blk.new _ _ _
  have g3 : Below w3.heap.size w3 X3 := by rw [hX3]; exact (Gr.alloc _ _).below
  have B5 := Lib.hid (B4.out.trans (g3.mono B4.out.size))
  have hp3 : w2.heap.size < w3.heap.size := K3.out.lt
  have h03 : w.heap.size < w3.heap.size := K03.out.lt
  clear eX3 hX3
  obtain ⟨TN, hTN⟩ : ∃ TN, TN = if r = true then T1 else fun _ => [] := ⟨_, rfl⟩
  go_cut [9] from 32 to 33 (fun s9 wd => s9 = .pointer (some ⟨w3.heap.size, 0, none⟩) ∧ ∃ Nm, Hid (Blk wd w3.heap.size (nms Nm) 37) ∧ Hid (∀ k, Sl wd (Nm k) ((TN k).map .string)) ∧ Hid (Below w3.heap.size w3 wd))
  case first =>
    cases r with
    | false =>
      go_wp2
      go_meet
      exact ⟨rfl, fun _ => nilV, Lib.hid kn, Lib.hid (fun k => by rw [hTN, if_neg (by simp)]; exact Sl.nil _), Lib.hid g3⟩
    | true =>
      have HTt : Hid (TN = T1) := Lib.hid (by rw [hTN, if_pos rfl])
      clear hTN
      obtain ⟨c0, c1, c2, c3, c4, c5, c6, c7, c8, c9⟩ := dcells (K3.out.later g3)
      go_wp2_with fail
      clear c0 c1 c2 c3 c4 c5 c6 c7 c8 c9
      refine (eof_any A B O3.out.slA.1 O3.out.slA.2 X3).mono ?_
      rintro e w4 ⟨rfl, h4⟩
      have kn4 := kn.later h4
      have g4 := g3.trans (h4.mono g3.size)
      obtain ⟨d0, d1, d2, d3, d4⟩ := ncells kn4
      have f := kn4.frozen
      have f0 := f 0
      have f1 := f 1
      have f2 := f 2
      have f3 := f 3
      have f4 := f 4
      have hsa := fun k w p m => st_slice (P := Try.prog) O3.out.slA.1 k w p m
      have KN4 := Lib.hid kn4
      have G4 := Lib.hid g4
      clear f kn4 g4 h4 kn
      simp only [nms]
      go_wp2_with fail
      go_meet
      refine ⟨rfl, A, Lib.hid (nsets_blk KN4.out A), Lib.hid (fun k => ?_), Lib.hid (nsets_below G4.out (Nat.le_refl _) A)⟩
      rw [HTt.out]
      exact ((O3.out.later (nsets_below G4.out (Nat.le_refl _) A)).sl k).1
  case rest =>
    obtain ⟨rfl, Nm, KN, SN, BN⟩ := hcut
    obtain ⟨W4, rfl⟩ : ∃ x : World, x = wc := ⟨_, rfl⟩
    have O4 := Lib.hid (O3.out.later BN.out)
    have K4 := Lib.hid (K3.out.later BN.out)
    have K04 := Lib.hid (K03.out.later BN.out)
    have HX4 := Lib.hid (HX3.out.later BN.out)
    have B6 := Lib.hid (B4.out.trans (BN.out.mono (Nat.le_of_lt h03)))
    have HTN := Lib.hid hTN
    clear O3 K3 K03 HX3 B4 BN kn g3 B5 hp3 h03 hTN
    go_wp2_with fail
    go_loopw [10, 11, 12, 13, 14, 15, 16, 17, 18, 19, 20, 21, 22, 23, 24] (fun v10 _ _ _ _ _ _ _ _ _ _ _ _ _ _ wr => ∃ j : Int, -1 ≤ j ∧ j ≤ 6 ∧ v10 = .int .i64 j ∧ Hid (Below W4.heap.size W4 wr)) (fun v10 _ _ _ _ _ _ _ _ _ _ _ _ _ _ _ => (6 - intOf v10).toNat)
    case atStart => exact ⟨-1, by omega, by omega, rfl, Lib.hid (Below.refl _ _)⟩
    case round =>
      obtain ⟨j, hj1, hj6, rfl, HB⟩ := hrel
      by_cases hj5 : j ≤ 5
      · have g5 : decide (j ≤ 5) = true := by simp; omega
        obtain ⟨av, hav⟩ : ∃ av, av = if 0 ≤ j ∧ j < 5 then Nm j.toNat else nilV := ⟨_, rfl⟩
        have SA : Hid (Sl wr av ((rowT TN j).map .string)) := Lib.hid (by
          rw [hav]
          unfold rowT
          split
          · exact (SN.out _).later HB.out
          · exact Sl.nil _)
        go_upto_region 12 with fail
        go_cut [43] from 38 to 42 (fun s43 wd => s43 = .bool (decide (0 ≤ j ∧ j < 5)) ∧ wd = wr)
        case first =>
          by_cases h0 : 0 ≤ j
          · have q0 : decide (0 ≤ j) = true := by simp; omega
            by_cases h5 : j < 5
            · have q1 : decide (j < 5) = true := by simp; omega
              go_wp2
              go_meet
              exact ⟨by simp [h0, h5], rfl⟩
            · have q1 : decide (j < 5) = false := by simp; omega
              go_wp2
              go_meet
              exact ⟨by simp [h5], rfl⟩
          · have q0 : decide (0 ≤ j) = false := by simp; omega
            go_wp2
            go_meet
            exact ⟨by simp; omega, rfl⟩
        case rest =>
          obtain ⟨rfl, hwc⟩ := hcut
          subst hwc
          go_upto_if 43 with fail
          go_cut [11, 43] from 44 to 46 (fun s11 _ wd => s11 = av ∧ wd = wc)
          case first =>
            obtain ⟨c0, c1, c2, c3, c4⟩ := ncells (KN.out.later HB.out)
            by_cases hk : 0 ≤ j ∧ j < 5
            · have q0 : decide (0 ≤ j ∧ j < 5) = true := by simpa using hk
              rw [if_pos hk] at hav
              obtain ⟨n, rfl⟩ : ∃ n : Nat, j = (n : Int) := ⟨j.toNat, by omega⟩
              have hn : n < 5 := by omega
              have hav' : av = Nm n := by rw [hav]; simp
              clear hav hk g5 hj1 hj6 hj5
              simp only [q0]
              clear q0
              obtain ⟨o1, m1, x1, e1⟩ : ∃ o m c, Nm n = .slice o m c := by obtain ⟨o, c, e, _⟩ := (SN.out n).mshape; exact ⟨o, _, c, e⟩
              obtain rfl | rfl | rfl | rfl | rfl := five hn
              all_goals
                simp only [e1] at c0 c1 c2 c3 c4
                go_wp2
                go_meet
                exact ⟨by rw [hav', e1], rfl⟩
            · have q0 : decide (0 ≤ j ∧ j < 5) = false := by simpa using hk
              rw [if_neg hk] at hav
              simp only [q0]
              clear q0
              go_wp2
              go_meet
              exact ⟨hav.symm, rfl⟩
          case rest =>
            obtain ⟨hv, hwc⟩ := hcut
            subst hwc
            subst hv
            obtain ⟨Wr, rfl⟩ : ∃ x : World, x = wc := ⟨_, rfl⟩
            have O5 := Lib.hid (O4.out.later HB.out)
            have K5 := Lib.hid (K4.out.later HB.out)
            have KN5 := Lib.hid (KN.out.later HB.out)
            have SN5 := Lib.hid (fun k => (SN.out k).later HB.out)
            have BB := Lib.hid (B6.out.trans (HB.out.mono B6.out.size))
            clear hav
            obtain ⟨l, hl⟩ := namesR_ex hsh T1 S1 j
            have el := namesR_row HR.out HTN.out hl
            rw [← el] at SA
            have HL := Lib.hid hl
            obtain ⟨c0, c1, c2, c3, c4, c5, c6, c7, c8, c9⟩ := dcells K5.out
            clear hl el
            go_wp2_with fail
            clear c0 c1 c2 c3 c4 c5 c6 c7 c8 c9
            refine (names_any A B T1 S1 Wr O5.out.sl LIM.out j l HL.out).mono ?_
            rintro e W5 ⟨v, rfl, hv, h5⟩
            obtain ⟨L, hLl⟩ : ∃ L, L = (l.map Value.string).length := ⟨_, rfl⟩
            obtain ⟨o1, x1, ev⟩ := hv.shape
            have hL9 := hv.len
            rw [← hLl] at ev hL9
            subst ev
            have HV := Lib.hid hv
            have H5 := Lib.hid h5
            have LL := Lib.hid hLl
            clear hv h5 hLl
            go_upto_block 2 with (go_at_call 22; refine (equals_sl _ _ l l _ HV.out.sl (SA.out.later H5.out)).mono ?_; rintro e W6 ⟨rfl, d6⟩)
            have HV6 := Lib.hid (HV.out.later (Gr.of_dr d6).below)
            have H6 := Lib.hid (H5.out.trans ((Gr.of_dr d6).below.mono H5.out.size))
            clear d6 HV H5 SA
            go_cut [56] (fun _ wx => Hid (Below Wr.heap.size Wr wx))
            case first =>
              clear HX4 K04 K4 KN SN O4 LIM DT DS HT HTZ HN HI HIN HR HTN K5 KN5 SN5 O5
              go_wp2
              go_loopw [13, 56] (fun _ i wz => ∃ (k : Nat) (lv : List Value), k ≤ L ∧ i = .int .i64 (k : Int) ∧ lv.length = L ∧ Hid (Ow 9 Wr.heap.size wz (.slice o1 L x1) lv) ∧ Hid (Below Wr.heap.size Wr wz)) (fun _ i _ => L - (intOf i).toNat)
              case atStart => exact ⟨0, _, Nat.zero_le _, rfl, LL.out.symm, HV6, H6⟩
              case round =>
                obtain ⟨k, lv, hk, rfl, hlv, HO, HB7⟩ := hrel
                by_cases hkL : k < L
                · obtain ⟨g, cap, eg, _, _, hg1, hg2, hcl, hfz, hO⟩ := HO.out.set (i := k) (by omega) (.string ⟨#[]⟩)
                  injection eg with e1 e2 e3
                  subst e1
                  have HO2 := Lib.hid hO
                  have HG := Lib.hid hg1
                  clear hO hg2 hg1 e2 e3
                  go_wp2
                  go_roundw
                  case rel => exact ⟨k + 1, _, by omega, by go_num, by rw [List.length_set]; exact hlv, HO2, Lib.hid (HB7.out.setCell HG.out _)⟩
                  case measure => simp [intOf]; omega
                · go_wp2
                  go_meet
                  exact HB7
            case rest =>
              rename Hid (Below Wr.heap.size Wr _) => H7
              obtain ⟨W7, rfl⟩ : ∃ x : World, x = wc := ⟨_, rfl⟩
              clear HV6 H6 LL hL9
              have O7 := Lib.hid (O5.out.later H7.out)
              have K7 := Lib.hid (K5.out.later H7.out)
              have KN7 := Lib.hid (KN5.out.later H7.out)
              have SN7 := Lib.hid (fun k => (SN5.out k).later H7.out)
              have BB7 := Lib.hid (BB.out.trans (H7.out.mono BB.out.size))
              have HB7 := Lib.hid (HB.out.trans (H7.out.mono HB.out.size))
              clear O5 K5 KN5 SN5 BB HB H7 HL
              go_upto_block 4 with fail
              go_cut [65] (fun _ wx => Hid (Below W7.heap.size W7 wx))
              case first =>
                clear HX4 K04 K4 KN SN O4 DT DS HI HIN HB7
                go_wp2
                go_loopw [14, 15, 16, 17, 18, 65] (fun _ _ _ _ _ i wz => ∃ k : Nat, k ≤ nX ∧ i = .int .i64 (k : Int) ∧ Hid (Below W7.heap.size W7 wz)) (fun _ _ _ _ _ i _ => nX - (intOf i).toNat)
                case atStart => exact ⟨0, Nat.zero_le _, rfl, Lib.hid (Below.refl _ _)⟩
                case round =>
                  obtain ⟨k, hk, rfl, HZ⟩ := hrel
                  by_cases hkn : k < nX
                  · have hkl : k < tx.length := by have := HN.out; omega
                    rcases HT.out with ⟨_, h, _⟩ | ⟨ab, rfl, hcX⟩
                    · have : tx = [] := by simpa using h
                      rw [this] at hkl; simp at hkl
                    · have bbr : Below w.heap.size w wr := BB7.out.trans (HZ.out.mono BB7.out.size)
                      have d := (bbr.cell (World.block_lt_of_cell? _ _ (hcX k (by simpa using hkl)))).trans (hcX k (by simpa using hkl))
                      rw [List.getElem_map] at d
                      have hsz := HTZ.out _ (List.getElem_mem hkl)
                      obtain ⟨s, hs⟩ : ∃ s, s = tx[k] := ⟨_, rfl⟩
                      rw [← hs] at d hsz
                      clear hs hcX bbr
                      by_cases h6 : k = 6
                      · have h6' : ((k : Int) == 6) = true := by simp; omega
                        clear h6
                        go_wp2
                        go_meet
                        exact HZ
                      · have h6' : ((k : Int) == 6) = false := by simp; omega
                        clear h6
                        obtain ⟨i, ok, hi⟩ := idR_ex hsh T1 S1 j s
                        have hall := idR_idI HR.out HTN.out hi
                        have F1 := Lib.hid (fun w' (hb : Below W7.heap.size W7 w') => id_any A B T1 S1 w' (O7.out.later hb).sl LIM.out j s hsz i ok hi)
                        obtain ⟨wn, hwn⟩ : ∃ wn, wn = idI TN j s := ⟨_, rfl⟩
                        have f2 := fun w' (hb : Below W7.heap.size W7 w') => eid_any Nm TN w' (fun k => (SN7.out k).later hb) j s
                        rw [← hwn] at f2 hall
                        have F2 := Lib.hid f2
                        have DC := Lib.hid (fun w' (hb : Below W7.heap.size W7 w') => And.intro (dcells_at K7.out hb) (ncells (KN7.out.later hb)))
                        obtain ⟨⟨c0, c1, c2, c3, c4, c5, c6, c7, c8, c9⟩, d0, d1, d2, d3, d4⟩ := DC.out _ HZ.out
                        clear hi hwn f2
                        rcases hall with ⟨rfl, hi0, rfl⟩ | ⟨rfl, rfl, rfl⟩
                        all_goals
                          first
                            | (have g1 : decide (0 ≤ i) = true := by simp; omega
                               have g2 : (i != max i 0) = false := by simp; omega)
                            | have gm : max (-1 : Int) 0 = 0 := rfl
                          go_wp2_with (first | (go_at_call 23; refine (F1.out _ HZ.out).mono ?_; rintro e w8 ⟨rfl, q8⟩; have HZ8 := Lib.hid (HZ.out.trans (q8.mono HZ.out.size)); clear c0 c1 c2 c3 c4 c5 c6 c7 c8 c9 d0 d1 d2 d3 d4; obtain ⟨⟨c0, c1, c2, c3, c4, c5, c6, c7, c8, c9⟩, d0, d1, d2, d3, d4⟩ := DC.out _ HZ8.out) | (go_at_call 24; refine (F2.out _ HZ8.out).mono ?_; rintro e w9 ⟨rfl, q9⟩))
                          go_roundw
                          case rel => exact ⟨k + 1, by omega, by go_num, Lib.hid (HZ8.out.trans (q9.mono HZ8.out.size))⟩
                          case measure => simp [intOf]; omega
                  · go_wp2
                    go_meet
                    exact HZ
              case rest =>
                rename Hid (Below W7.heap.size W7 _) => H8
                obtain ⟨W8, rfl⟩ : ∃ x : World, x = wc := ⟨_, rfl⟩
                have O8 := Lib.hid (O7.out.later H8.out)
                have K8 := Lib.hid (K7.out.later H8.out)
                have KN8 := Lib.hid (KN7.out.later H8.out)
                have SN8 := Lib.hid (fun k => (SN7.out k).later H8.out)
                have BB8 := Lib.hid (BB7.out.trans (H8.out.mono BB7.out.size))
                have HB8 := Lib.hid (HB7.out.trans (H8.out.mono HB7.out.size))
                clear O7 K7 KN7 SN7 BB7 HB7 H8
                clear HX4 K04 K4 KN SN O4 DT DS HT HN HTZ
                go_wp2
                go_loopw [19, 20, 21, 22, 23, 24, 96] (fun _ _ _ _ _ _ i wz => ∃ k : Nat, k ≤ nI ∧ i = .int .i64 (k : Int) ∧ Hid (Below W8.heap.size W8 wz)) (fun _ _ _ _ _ _ i _ => nI - (intOf i).toNat)
                case atStart => exact ⟨0, Nat.zero_le _, rfl, Lib.hid (Below.refl _ _)⟩
                case round =>
                  obtain ⟨k, hk, rfl, HZ⟩ := hrel
                  by_cases hkn : k < nI
                  · have hkl : k < is.length := by have := HIN.out; omega
                    rcases HI.out with ⟨_, h, _⟩ | ⟨ab, rfl, hcX⟩
                    · have : is = [] := by simpa using h
                      rw [this] at hkl; simp at hkl
                    · have bbr : Below w.heap.size w wr := BB8.out.trans (HZ.out.mono BB8.out.size)
                      have d := (bbr.cell (World.block_lt_of_cell? _ _ (hcX k (by simpa using hkl)))).trans (hcX k (by simpa using hkl))
                      rw [List.getElem_map] at d
                      obtain ⟨m, hm⟩ : ∃ m, m = is[k] := ⟨_, rfl⟩
                      rw [← hm] at d
                      clear hm hcX bbr
                      by_cases h6 : k = 6
                      · have h6' : ((k : Int) == 6) = true := by simp; omega
                        clear h6
                        go_wp2
                        go_roundw
                        case rel => exact ⟨j + 1, by omega, by omega, by go_num, Lib.hid (HB8.out.trans (HZ.out.mono HB8.out.size))⟩
                        case measure => simp [intOf]; omega
                      · have h6' : ((k : Int) == 6) = false := by simp; omega
                        clear h6
                        obtain ⟨rt, e', hx⟩ := nameR_ex hsh T1 S1 j m
                        have F1 := Lib.hid (fun w' (hb : Below W8.heap.size W8 w') => name_any A B T1 S1 w' (O8.out.later hb).sl LIM.out j m rt e' hx)
                        have HXR := Lib.hid hx
                        have DC := Lib.hid (fun w' (hb : Below W8.heap.size W8 w') => And.intro (dcells_at K8.out hb) (ncells (KN8.out.later hb)))
                        obtain ⟨⟨c0, c1, c2, c3, c4, c5, c6, c7, c8, c9⟩, _⟩ := DC.out _ HZ.out
                        clear hx
                        go_upto_if 110 with (go_at_call 25; refine (F1.out _ HZ.out).mono ?_; rintro e w8 ⟨rfl, q8⟩; have HZ8 := Lib.hid (HZ.out.trans (q8.mono HZ.out.size)); clear q8)
                        clear c0 c1 c2 c3 c4 c5 c6 c7 c8 c9 d HZ
                        go_cut [23, 24] from 111 to 134 (fun s23 s24 wd => s23 = .string rt ∧ s24 = .int .i64 e' ∧ wd = w8)
                        case first =>
                          have H7 := Lib.hid (DC.out _ HZ8.out).2
                          clear F1 DC
                          cases r with
                          | false =>
                            have hng : ¬ DGood hsh T1 S1 := fun h => by have := HR.out.2 h; cases this
                            rcases HXR.out with ⟨_, rfl, rfl⟩ | ⟨h, _⟩ | ⟨h, _⟩
                            · clear hng
                              go_wp2
                              go_meet
                              exact ⟨rfl, rfl, rfl⟩
                            · exact (hng h).elim
                            · exact (hng h).elim
                          | true =>
                            have hg : DGood hsh T1 S1 := HR.out.1 rfl
                            have hTn : TN = T1 := by rw [HTN.out, if_pos rfl]
                            rcases HXR.out with ⟨h, _⟩ | ⟨_, hj, rfl, rfl⟩ | ⟨_, n, hn, rfl, hx⟩
                            · exact (h hg).elim
                            · clear hg hTn H7
                              by_cases h0 : j < 0
                              · have q0 : decide (j < 0) = true := by simp; omega
                                go_wp2
                                go_meet
                                exact ⟨rfl, rfl, rfl⟩
                              · have q0 : decide (j < 0) = false := by simp; omega
                                have q1 : decide (5 ≤ j) = true := by simp; omega
                                go_wp2
                                go_meet
                                exact ⟨rfl, rfl, rfl⟩
                            · obtain ⟨d0, d1, d2, d3, d4⟩ := H7.out
                              have hsl := (SN8.out n).later HZ8.out
                              rw [hTn] at hsl
                              obtain ⟨o7, x7, e7, _, _, hc7⟩ := hsl.mshape
                              obtain ⟨Ln, hLn⟩ : ∃ Ln, Ln = (T1 n).length := ⟨_, rfl⟩
                              have q0 : decide ((n : Int) < 0) = false := by simp
                              have q1 : decide (5 ≤ (n : Int)) = false := by simp; omega
                              rw [← hLn] at e7
                              clear hg hTn H7 hsl g5 hj1 hj6 hj5
                              rcases hx with ⟨⟨hm1, hm0, hrt⟩, rfl⟩ | ⟨hm, rfl, rfl⟩
                              · obtain ⟨z, rfl⟩ : ∃ z : Nat, m = (z : Int) := ⟨m.toNat, by omega⟩
                                simp only [Int.toNat_natCast] at hm1 hrt
                                rcases hc7 with h | ⟨b7, f7, rfl, _, hcl⟩
                                · rw [h] at hm1; simp at hm1
                                · have hz := hcl z hm1
                                  rw [← hrt] at hz
                                  have q2 : decide ((z : Int) < 0) = false := by simp
                                  have q3 : decide ((Ln : Int) ≤ (z : Int)) = false := by simp; omega
                                  have hzL : z < Ln := by omega
                                  clear hcl hrt hm1
                                  obtain rfl | rfl | rfl | rfl | rfl := five hn
                                  all_goals
                                    simp only [e7] at d0 d1 d2 d3 d4
                                    go_wp2
                                    go_meet
                                    exact ⟨rfl, rfl, rfl⟩
                              · by_cases h0 : m < 0
                                · have q2 : decide (m < 0) = true := by simp; omega
                                  obtain rfl | rfl | rfl | rfl | rfl := five hn
                                  all_goals
                                    simp only [e7] at d0 d1 d2 d3 d4
                                    go_wp2
                                    go_meet
                                    exact ⟨rfl, rfl, rfl⟩
                                · have q2 : decide (m < 0) = false := by simp; omega
                                  have q3 : decide ((Ln : Int) ≤ m) = true := by simp; omega
                                  obtain rfl | rfl | rfl | rfl | rfl := five hn
                                  all_goals
                                    simp only [e7] at d0 d1 d2 d3 d4
                                    go_wp2
                                    go_meet
                                    exact ⟨rfl, rfl, rfl⟩
                        case rest =>
                          obtain ⟨rfl, rfl, hwc⟩ := hcut
                          subst hwc
                          have hrr : (rt.toList == rt.toList) = true := eq_s rfl
                          have hee : (e' != e') = false := by simp
                          go_wp2
                          go_roundw
                          case rel => exact ⟨k + 1, by omega, by go_num, HZ8⟩
                          case measure => simp [intOf]; omega
                  · go_wp2
                    go_roundw
                    case rel => exact ⟨j + 1, by omega, by omega, by go_num, Lib.hid (HB8.out.trans (HZ.out.mono HB8.out.size))⟩
                    case measure => simp [intOf]; omega
      · have g5 : decide (j ≤ 5) = false := by simp; omega
        obtain ⟨Wr, rfl⟩ : ∃ x : World, x = wr := ⟨_, rfl⟩
        have bc : Below Wr.heap.size Wr Wr := Below.refl _ _
        have KP6 := K4.out.later HB.out
        have K06 := K04.out.later HB.out
        have O6 := O4.out.later HB.out
        have HX6 := HX4.out.later HB.out
        have DC := Lib.hid (fun w' (hb : Below Wr.heap.size Wr w') => And.intro (dcells_at KP6 hb) (dcells_at K06 hb))
        have f4 := fun w' (hb : Below Wr.heap.size Wr w') => (own6_any a b T S w' (HX6.later hb)).mono (R' := fun e wb => ∃ C D, e = .returned (.agg (dcs C D)) ∧ Below Wr.heap.size Wr wb ∧ DOw 9 3 w'.heap.size wb C D T1 S1) fun e wb ⟨C, D, h1, h2, h3⟩ => ⟨C, D, h1, hb.trans (h3.mono hb.size), by rw [DT.out, DS.out]; exact h2⟩
        have f5 := fun Bd w' (hb : Below Wr.heap.size Wr w') C D (hO : DOw 9 3 Bd w' C D T1 S1) => (same6_any A B C D T1 T1 S1 S1 w' (O6.later hb).sl hO.sl true (by simp)).mono (R' := fun e wb => e = .returned (.bool true) ∧ Below Wr.heap.size Wr wb) fun e wb ⟨h1, h2⟩ => ⟨h1, hb.trans (h2.mono hb.size)⟩
        simp only [dcs] at f4 f5
        have F4 := Lib.hid f4
        have F5 := Lib.hid f5
        have BB := Lib.hid (B6.out.trans (HB.out.mono B6.out.size))
        clear f4 f5 KP6 K06 O6 HX6 DT DS O4 K4 K04 HX4 B6 HB KN SN LIM HR HTN HT HTZ HN HI HIN
        go_upto_region 46 with fail
        first
          | go_region_held3 (fun w' => (w'.cell? ⟨w2.heap.size, 0, none⟩ = some (A 0) ∧ w'.cell? ⟨w2.heap.size, 1, none⟩ = some (B 0) ∧ w'.cell? ⟨w2.heap.size, 2, none⟩ = some (A 1) ∧ w'.cell? ⟨w2.heap.size, 3, none⟩ = some (B 1) ∧ w'.cell? ⟨w2.heap.size, 4, none⟩ = some (A 2) ∧ w'.cell? ⟨w2.heap.size, 5, none⟩ = some (B 2) ∧ w'.cell? ⟨w2.heap.size, 6, none⟩ = some (A 3) ∧ w'.cell? ⟨w2.heap.size, 7, none⟩ = some (B 3) ∧ w'.cell? ⟨w2.heap.size, 8, none⟩ = some (A 4) ∧ w'.cell? ⟨w2.heap.size, 9, none⟩ = some (B 4)) ∧ (w'.cell? ⟨w.heap.size, 0, none⟩ = some (a 0) ∧ w'.cell? ⟨w.heap.size, 1, none⟩ = some (b 0) ∧ w'.cell? ⟨w.heap.size, 2, none⟩ = some (a 1) ∧ w'.cell? ⟨w.heap.size, 3, none⟩ = some (b 1) ∧ w'.cell? ⟨w.heap.size, 4, none⟩ = some (a 2) ∧ w'.cell? ⟨w.heap.size, 5, none⟩ = some (b 2) ∧ w'.cell? ⟨w.heap.size, 6, none⟩ = some (a 3) ∧ w'.cell? ⟨w.heap.size, 7, none⟩ = some (b 3) ∧ w'.cell? ⟨w.heap.size, 8, none⟩ = some (a 4) ∧ w'.cell? ⟨w.heap.size, 9, none⟩ = some (b 4)))
              (first | exact DC.out _ bc | exact DC.out _ (bdr bc))
              (first | (go_at_call 11; (with_reducible refine (F4.out _ (by first | exact bc | exact bdr bc)).mono ?_); rintro e wb ⟨C, D, rfl, bc, hO⟩) | (go_at_call 20; (with_reducible refine (F5.out _ _ bc C D hO).mono ?_); rintro e wb ⟨rfl, bc⟩))
          | fail
        go_wp2
        go_ret
        exact ⟨rfl, BB.out.trans (bc.mono BB.out.size)⟩
end Go.Proofs.Ytmghbejbdkoehaa

