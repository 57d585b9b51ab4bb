/- DictBytes: a dictionary's bytes, and what stands at places of bytes. -/
import Derived.Test.YtmghbejbdkoehaaK24
import Derived.Test.YtmghbejbdkoehaaK27
import Derived.Test.YtmghbejbdkoehaaK35
import Derived.Test.YtmghbejbdkoehaaK36
import Derived.Test.YtmghbejbdkoehaaTk
namespace Go.Proofs.Ytmghbejbdkoehaa
open Go.RowKit Go.Proofs.Kit Go.Shelf

set_option maxRecDepth 100000 in
set_option maxHeartbeats 1000000 in
theorem equalb_arg_some (b1 f1 n c1 c2 : Nat) (a : Addr) (l : List Int) (w : World) (hn : n ≤ 9223372036854775807) (e1 : l.length = n) (b1' : b1 < w.heap.size)
    (hc1 : ∀ i (h : i < l.length), w.cell? ⟨b1, f1 + i, none⟩ = some (.int .u8 l[i])) (hc2 : ∀ i (h : i < l.length), w.cell? (a.add i) = some (.int .u8 l[i])) :
    Calls Try.prog 32 #[.slice (some ⟨b1, f1, none⟩) n c1, .slice (some a) n c2] w fun e w' => e = .returned (.bool true) ∧ Below w.heap.size w w' := by
  have H1 := Lib.hid hc1; clear hc1
  have H2 := Lib.hid hc2; clear hc2
  have E1 := Lib.hid e1; clear e1
  go_enter Try.func32, Try.ntmps32
  go_wp2
  go_loopw [5, 13] (fun _ i wr => ∃ k : Nat, k ≤ n ∧ i = .int .i64 k ∧ Below w.heap.size w wr) (fun _ i _ => n - (intOf i).toNat)
  case atStart => exact ⟨0, Nat.zero_le _, rfl, Below.refl _ _⟩
  case round =>
    obtain ⟨k, hk, rfl, hB⟩ := hrel
    by_cases hlt : k < n
    · have k1 : k < l.length := by have := E1.out; omega
      have d1 : wr.cell? ⟨b1, f1 + k, none⟩ = some (.int .u8 l[k]) := (hB.cell (p := ⟨b1, f1 + k, none⟩) b1').trans (H1.out k k1)
      have d2 : wr.cell? (a.add k) = some (.int .u8 l[k]) := (hB.cell (World.block_lt_of_cell? _ _ (H2.out k k1))).trans (H2.out k k1)
      obtain ⟨x, hx⟩ : ∃ x, x = l[k] := ⟨_, rfl⟩
      rw [← hx] at d1 d2
      have ht : (x != x) = false := by simp
      clear hx
      go_wp2
      go_quiet (fail)
      go_wp2
      go_roundw
      case rel => exact ⟨k + 1, by omega, by go_num, hB.trans ⟨rfl, rfl, rfl, Nat.le_refl _, fun _ _ => rfl⟩⟩
      case measure => simp [intOf]; omega
    · go_wp2
      go_ret
      exact ⟨rfl, hB⟩
theorem equalb_arg (o : Option Addr) (v1 : Value) (c2 : Nat) (l : List Int) (w : World) (h1 : Seg .u8 w v1 l) (h2 : ArgI .u8 w o c2 l) :
    Calls Try.prog 32 #[v1, .slice o l.length c2] w fun e w' => e = .returned (.bool true) ∧ Below w.heap.size w w' := by
  obtain ⟨o1, c1, rfl, hc1, hm1, rfl | ⟨b1, f1, rfl, q1, a1⟩⟩ := h1.shape
  · exact (equalb_none o1 o c1 c2 w).mono fun e w' ⟨he, hw⟩ => ⟨he, hw ▸ Below.refl _ _⟩
  · rcases h2 with ⟨rfl, rfl, rfl⟩ | ⟨a, rfl, h2⟩
    · exact (equalb_none _ none c1 0 w).mono fun e w' ⟨he, hw⟩ => ⟨he, hw ▸ Below.refl _ _⟩
    · exact equalb_arg_some b1 f1 l.length c1 c2 a l w h1.1 rfl q1 a1 h2
set_option maxRecDepth 100000 in
set_option maxHeartbeats 4000000 in
theorem bytes6_true (a b : Nat → Value) (T : Nat → List ByteArray) (S : Nat → List Int) (oY : Option Addr) (nY cY : Nat) (lY : List Int) (oP : Option Addr) (nP cP : Nat) (pl : List Int) (w : World) (hx : DArg w a b T S) (hz : ∀ k, ∀ s ∈ T k, s.size ≤ 9223372036854775807)
    (aY : ArgI .u8 w oY cY lY) (hY : lY.length = nY) (hYc : nY ≤ cY) (bY : Byt lY) (aP : ArgV w oP cP (pl.map (Value.int .i64))) (hP : pl.length = nP) (hP9 : nP ≤ 9223372036854775807) :
    Calls Try.prog 6 #[.agg (dcs a b), .slice oY nY cY, .slice oP nP cP] w fun e w' => e = .returned (.bool true) ∧ Below w.heap.size w w' := by
  have hmix := mixed
  have HX := Lib.hid hx
  have LIM := Lib.hid (own_lim (S := S) hz)
  have AY := Lib.hid aY
  have LY := Lib.hid hY
  have BY := Lib.hid bY
  have AP := Lib.hid aP
  have LP := Lib.hid hP
  clear hx hz aY hY bY aP hP
  simp only [dcs]
  obtain ⟨X0, hX0⟩ : ∃ X0, X0 = w.alloc (.cells (dcs a b) 28) := ⟨_, rfl⟩
  have e0 : w.alloc (.cells #[a 0, b 0, a 1, b 1, a 2, b 2, a 3, b 3, a 4, b 4] 28) = X0 := hX0.symm
  have k0 : Blk X0 w.heap.size (dcs a b) 28 := by rw [hX0]; exact Blk.new _ _ _
  have g0 : Below w.heap.size w X0 := by rw [hX0]; exact (Gr.alloc _ _).below
  clear hX0
  go_enter Try.func6, Try.ntmps6
  go_wp2_with fail
  refine (wakes6_any X0).mono ?_
  rintro e w1 ⟨rfl, h1⟩
  have K0 := Lib.hid (k0.later h1)
  have B1 := Lib.hid (g0.trans (h1.mono g0.size))
  have HX1 := Lib.hid (HX.out.later B1.out)
  clear e0 k0 g0 h1 HX
  obtain ⟨c0, c1, c2, c3, c4, c5, c6, c7, c8, c9⟩ := dcells K0.out
  go_wp2_with fail
  clear c0 c1 c2 c3 c4 c5 c6 c7 c8 c9
  refine (own6_any a b T S w1 HX1.out).mono ?_
  rintro e w2 ⟨A, B, rfl, hO, h2⟩
  obtain ⟨T1, hT1⟩ : ∃ T1, T1 = fst (cutT T) 5 := ⟨_, rfl⟩
  obtain ⟨S1, hS1⟩ : ∃ S1, S1 = fst (cutS6 S) 5 := ⟨_, rfl⟩
  have DT := Lib.hid hT1
  have DS := Lib.hid hS1
  rw [← hT1, ← hS1] at hO LIM
  obtain ⟨X2, hX2⟩ : ∃ X2, X2 = w2.alloc (.cells (dcs A B) 28) := ⟨_, rfl⟩
  have eX2 : w2.alloc (.cells #[A 0, B 0, A 1, B 1, A 2, B 2, A 3, B 3, A 4, B 4] 28) = X2 := hX2.symm
  have k2 : Blk X2 w2.heap.size (dcs A B) 28 := by rw [hX2]; exact Blk.new _ _ _
  have g2 : Below w2.heap.size w2 X2 := by rw [hX2]; exact (Gr.alloc _ _).below
  obtain ⟨sa, sb⟩ := hO.slA
  have hsa := fun k w p m => st_slice (P := Try.prog) sa k w p m
  have hsb := fun k w p m => st_slice (P := Try.prog) sb k w p m
  have b2 := B1.out.trans (h2.mono B1.out.size)
  have b3 := b2.trans (g2.mono b2.size)
  obtain ⟨c0, c1, c2, c3, c4, c5, c6, c7, c8, c9⟩ := dcells k2
  have O2 := Lib.hid (hO.later g2)
  have K2 := Lib.hid k2
  have K02 := Lib.hid ((K0.out.later h2).later g2)
  have HX2 := Lib.hid ((HX1.out.later h2).later g2)
  have B3 := Lib.hid b3
  obtain ⟨r, hr⟩ : ∃ r : Bool, r = true ↔ DGood hsh T1 S1 := by
    by_cases h : DGood hsh T1 S1
    · exact ⟨true, by simp [h]⟩
    · exact ⟨false, by simp [h]⟩
  have HR := Lib.hid hr
  clear hX2 hT1 hS1 hO k2 g2 sa sb b2 b3 h2 HX1 K0 B1 hr
  simp only [dcs]
  obtain ⟨want, ee, hwe⟩ : ∃ (want : List Int) (ee : Int), (r = true ∧ want = bytesD T1 5 ∧ ee = 0) ∨ (r = false ∧ want = [] ∧ ee = 160) := by
    cases r with
    | false => exact ⟨_, _, .inr ⟨rfl, rfl, rfl⟩⟩
    | true => exact ⟨_, _, .inl ⟨rfl, rfl, rfl⟩⟩
  have hby := fun (h : DSl X2 A B T1 S1) (hL : DLim T1 S1) => show Calls Try.prog 30 #[.agg (dcs A B)] X2 fun e w' => ∃ v, e = .returned (.tuple #[v, .int .i64 ee]) ∧ Seg .u8 w' v want ∧ Below X2.heap.size X2 w' by
    rcases hwe with ⟨hr, rfl, rfl⟩ | ⟨hr, rfl, rfl⟩
    · exact (dbytes_ok A B T1 S1 X2 h hL (HR.out.1 hr)).mono fun e w' ⟨v, h1, h2, h3⟩ => ⟨v, h1, h2.owns.seg, h3⟩
    · exact (dbytes_bad A B T1 S1 X2 h hL (fun hg => by rw [HR.out.2 hg] at hr; cases hr)).mono fun e w' ⟨h1, h3⟩ => ⟨_, h1, Seg.nil _ _, h3⟩
  have HBYT := Lib.hid hby
  have HWE := Lib.hid hwe
  clear hby hwe
  go_wp2_with fail
  clear hsa hsb eX2 c0 c1 c2 c3 c4 c5 c6 c7 c8 c9
  refine (HBYT.out O2.out.sl LIM.out).mono ?_
  rintro e w3 ⟨v, rfl, hV, h3⟩
  have V3 := Lib.hid hV
  have O3 := Lib.hid (O2.out.later h3)
  have K3 := Lib.hid (K2.out.later h3)
  have K03 := Lib.hid (K02.out.later h3)
  have HX3 := Lib.hid (HX2.out.later h3)
  have B4 := Lib.hid (B3.out.trans (h3.mono B3.out.size))
  clear hV h3 O2 K2 K02 HX2 B3 HBYT
  obtain ⟨c0, c1, c2, c3, c4, c5, c6, c7, c8, c9⟩ := dcells K3.out
  go_wp2_with fail
  clear c0 c1 c2 c3 c4 c5 c6 c7 c8 c9
  refine (eright_any A B T1 S1 w3 O3.out.sl LIM.out r HR.out).mono ?_
  rintro e w4 ⟨rfl, h4⟩
  have V4 := Lib.hid (V3.out.later h4)
  have O4 := Lib.hid (O3.out.later h4)
  have K4 := Lib.hid (K3.out.later h4)
  have K04 := Lib.hid (K03.out.later h4)
  have HX4 := Lib.hid (HX3.out.later h4)
  have B5 := Lib.hid (B4.out.trans (h4.mono B4.out.size))
  clear h4 V3 O3 K3 K03 HX3 B4
  go_upto_if 31 with fail
  go_cut [10, 11] from 32 to 34 (fun s10 s11 wd => Hid (Seg .u8 wd s10 want) ∧ s11 = .int .i64 ee ∧ Hid (Below w4.heap.size w4 wd))
  case first =>
    rcases HWE.out with ⟨rfl, rfl, rfl⟩ | ⟨rfl, rfl, rfl⟩
    · have GG := Lib.hid (HR.out.1 rfl)
      obtain ⟨c0, c1, c2, c3, c4, c5, c6, c7, c8, c9⟩ := dcells K4.out
      go_wp2_with fail
      clear c0 c1 c2 c3 c4 c5 c6 c7 c8 c9
      refine (eof_any A B O4.out.slA.1 O4.out.slA.2 w4).mono ?_
      rintro e w5 ⟨rfl, h5⟩
      go_wp2_with fail
      refine (ebytes_any A T1 w5 (fun k => ((O4.out.later h5).sl k).1) (dgood_sizes GG.out)).mono ?_
      rintro e w6 ⟨v6, rfl, ho6, h6⟩
      have b6 := h5.trans (h6.mono h5.size)
      go_wp2
      go_meet
      exact ⟨Lib.hid ho6.seg, rfl, Lib.hid b6⟩
    · go_wp2
      go_meet
      exact ⟨Lib.hid (Seg.nil _ _), rfl, Lib.hid (Below.refl _ _)⟩
  case rest =>
    obtain ⟨SW, rfl, HB4⟩ := hcut
    obtain ⟨W6, rfl⟩ : ∃ x : World, x = wc := ⟨_, rfl⟩
    have hee : (ee != ee) = false := by simp
    go_wp2_with fail
    refine (equalb_seg _ _ _ _ W6 (V4.out.later HB4.out) SW.out).mono ?_
    rw [decide_eq_true (rfl : want = want)]
    rintro e W7 ⟨rfl, h7⟩
    have h47 := HB4.out.trans (h7.mono HB4.out.size)
    have O7 := Lib.hid (O4.out.later h47)
    have K7 := Lib.hid (K4.out.later h47)
    have K07 := Lib.hid (K04.out.later h47)
    have HX7 := Lib.hid (HX4.out.later h47)
    have B7 := Lib.hid (B5.out.trans (h47.mono B5.out.size))
    clear h47 h7 HB4 V4 O4 K4 K04 HX4 B5 SW HWE HR
    obtain ⟨m, hm⟩ : ∃ m, m = min nY 400 := ⟨_, rfl⟩
    have hm1 : min (nY : Int) 400 = ((m : Nat) : Int) := by omega
    have hmc : m ≤ cY := by omega
    have hm4 : m ≤ 400 := by omega
    have hmn : m ≤ nY := by omega
    obtain ⟨bs, hbs⟩ : ∃ bs, bs = lY.take m := ⟨_, rfl⟩
    have LB : Hid (bs.length = m) := Lib.hid (by rw [hbs, List.length_take, LY.out]; omega)
    have BB : Hid (Byt bs) := Lib.hid (fun x hx => BY.out x (List.mem_of_mem_take (by rw [← hbs]; exact hx)))
    have AB := Lib.hid (AY.out.take m)
    rw [← hbs] at AB
    clear hm hbs
    go_wp2_with fail
    clear hm1
    refine (cloneb_any oY m cY bs W7 LB.out (by omega) (AB.out.later B7.out)).mono ?_
    rintro e W8 ⟨v8, rfl, ho8, h8⟩
    obtain ⟨o8, c8, e8⟩ := ho8.shape
    rw [LB.out] at e8
    have hc8 : m ≤ c8 := by
      rcases ho8.seg.shape with ⟨o, c, e, h1, _, _⟩
      rw [e8] at e
      injection e with _ _ e3
      rw [LB.out] at h1
      omega
    subst e8
    have SB := Lib.hid ho8.seg
    have O8 := Lib.hid (O7.out.later h8)
    have K8 := Lib.hid (K7.out.later h8)
    have K08 := Lib.hid (K07.out.later h8)
    have HX8 := Lib.hid (HX7.out.later h8)
    have B8 := Lib.hid (B7.out.trans (h8.mono B7.out.size))
    clear h8 ho8 O7 K7 K07 HX7 B7
    go_upto_block 0 with fail
    go_cut [52] (fun _ wx => Hid (Below W8.heap.size W8 wx))
    case first =>
      clear O8 K8 K08 HX8 LIM DT DS AB AY BY LY
      go_wp2
      go_loopw [13, 14, 15, 16, 17, 18, 19, 20, 52] (fun _ _ _ _ _ _ _ _ i wz => ∃ k : Nat, k ≤ nP ∧ i = .int .i64 (k : Int) ∧ Hid (Below W8.heap.size W8 wz)) (fun _ _ _ _ _ _ _ _ i _ => nP - (intOf i).toNat)
      case atStart => exact ⟨0, Nat.zero_le _, rfl, Lib.hid (Below.refl _ _)⟩
      case round =>
        obtain ⟨k, hk, rfl, HZ⟩ := hrel
        obtain ⟨wz, rfl⟩ : ∃ x : World, x = wr := ⟨_, rfl⟩
        by_cases hkn : k < nP
        · have hkl : k < pl.length := by have := LP.out; omega
          rcases AP.out with ⟨_, h, _⟩ | ⟨ab, rfl, hcX⟩
          · have : pl = [] := by simpa using h
            rw [this] at hkl; simp at hkl
          · have bbr : Below w.heap.size w wz := B8.out.trans (HZ.out.mono B8.out.size)
            have d := (bbr.cell (World.block_lt_of_cell? _ _ (hcX k (by simpa using hkl)))).trans (hcX k (by simpa using hkl))
            rw [List.getElem_map] at d
            obtain ⟨at_, hat⟩ : ∃ s, s = pl[k] := ⟨_, rfl⟩
            rw [← hat] at d
            clear hat hcX bbr hkl
            by_cases h6 : k = 6
            · have h6' : ((k : Int) == 6) = true := by simp; omega
              clear h6
              go_wp2
              go_meet
              exact HZ
            · have h6' : ((k : Int) == 6) = false := by simp; omega
              clear h6
              by_cases hat : at_ < 0 ∨ (m : Int) < at_
              · go_wp2_with fail
                refine (dread_arg at_ _ bs wz (SB.out.later HZ.out) (by rw [LB.out]; exact hat)).mono ?_
                rintro e w9 ⟨rfl, h9⟩
                simp only [dcs, nilV]
                go_upto_region 17 with fail
                obtain ⟨X9, hX9⟩ : ∃ X, X = w9.alloc (.cells #[.slice none 0 0, .slice none 0 0, .slice none 0 0, .slice none 0 0, .slice none 0 0, .slice none 0 0, .slice none 0 0, .slice none 0 0, .slice none 0 0, .slice none 0 0] 28) := ⟨_, rfl⟩
                have k9 : Blk X9 w9.heap.size (dcs (fun _ => nilV) (fun _ => nilV)) 28 := by rw [hX9]; exact Blk.new _ _ _
                have g9 : Below w9.heap.size w9 X9 := by rw [hX9]; exact (Gr.alloc _ _).below
                rw [← hX9]
                have HZ9 := Lib.hid (HZ.out.trans ((h9.trans (g9.mono h9.size)).mono HZ.out.size))
                have K9 := Lib.hid k9
                clear hX9 h9 g9 k9 HZ d
                have f4 := fun w' => none6_any (fun _ => nilV) (fun _ => nilV) (fun _ => []) (fun _ => []) w' (fun _ => ⟨Sl.nil _, Sl.nil _⟩) true (by simp)
                simp only [dcs, nilV] at f4
                have F4 := Lib.hid f4
                clear f4
                obtain ⟨c0, c1, c2, c3, c4, c5, c6, c7, c8, c9⟩ := dcells K9.out
                simp only [nilV] at c0 c1 c2 c3 c4 c5 c6 c7 c8 c9
                by_cases hneg : at_ < 0
                · have g1 : decide (at_ < 0) = true := by simpa using hneg
                  clear hat hneg
                  go_wp2_with fail
                  refine (F4.out X9).mono ?_
                  rintro e w10 ⟨rfl, h10⟩
                  have HZ10 := Lib.hid (HZ9.out.trans (h10.mono HZ9.out.size))
                  clear h10 HZ9 c0 c1 c2 c3 c4 c5 c6 c7 c8 c9
                  go_wp2
                  go_roundw
                  case rel => exact ⟨k + 1, by omega, by go_num, HZ10⟩
                  case measure => simp [intOf]; omega
                · have g1 : decide (at_ < 0) = false := by simpa using hneg
                  have g2 : decide ((m : Int) < at_) = true := by simp; omega
                  clear hat hneg
                  go_wp2_with fail
                  refine (F4.out X9).mono ?_
                  rintro e w10 ⟨rfl, h10⟩
                  have HZ10 := Lib.hid (HZ9.out.trans (h10.mono HZ9.out.size))
                  clear h10 HZ9 c0 c1 c2 c3 c4 c5 c6 c7 c8 c9
                  go_wp2
                  go_roundw
                  case rel => exact ⟨k + 1, by omega, by go_num, HZ10⟩
                  case measure => simp [intOf]; omega
              · obtain ⟨p, rfl⟩ : ∃ p : Nat, at_ = (p : Int) := ⟨at_.toNat, by omega⟩
                have hpm : p ≤ m := by omega
                clear hat
                go_wp2_with fail
                refine (dread_any p _ bs wz (SB.out.later HZ.out) BB.out (by rw [LB.out]; omega) (by rw [LB.out]; exact hpm)).mono ?_
                rintro e w9 hR
                have g1 : decide ((p : Int) < 0) = false := decide_eq_false (by omega)
                have g2 : decide (m < p) = false := by simp; omega
                have g3 : decide ((m : Int) < (p : Int)) = false := by simp; omega
                cases hR with
                | no _ hn h9 =>
                  have HN := Lib.hid hn
                  simp only [dcs, nilV]
                  go_upto_region 17 with fail
                  obtain ⟨X9, hX9⟩ : ∃ X, X = w9.alloc (.cells #[.slice none 0 0, .slice none 0 0, .slice none 0 0, .slice none 0 0, .slice none 0 0, .slice none 0 0, .slice none 0 0, .slice none 0 0, .slice none 0 0, .slice none 0 0] 28) := ⟨_, rfl⟩
                  have k9 : Blk X9 w9.heap.size (dcs (fun _ => nilV) (fun _ => nilV)) 28 := by rw [hX9]; exact Blk.new _ _ _
                  have g9 : Below w9.heap.size w9 X9 := by rw [hX9]; exact (Gr.alloc _ _).below
                  rw [← hX9]
                  have HZ9 := Lib.hid (HZ.out.trans ((h9.trans (g9.mono h9.size)).mono HZ.out.size))
                  have K9 := Lib.hid k9
                  clear hX9 h9 g9 k9 HZ d hn
                  go_wp2_with fail
                  refine (eread_any p _ bs X9 (SB.out.later HZ9.out) BB.out (by rw [LB.out]; omega) (by rw [LB.out]; exact hpm)).mono ?_
                  rintro e w11 ⟨h11, ⟨L, q, A4, hs, _⟩ | ⟨_, rfl⟩⟩
                  · rw [HN.out] at hs; cases hs
                  · simp only [nms, nilV]
                    go_upto_region 21 with fail
                    obtain ⟨X12, hX12⟩ : ∃ X, X = w11.alloc (.cells #[.slice none 0 0, .slice none 0 0, .slice none 0 0, .slice none 0 0, .slice none 0 0] 37) := ⟨_, rfl⟩
                    have g12 : Below w11.heap.size w11 X12 := by rw [hX12]; exact (Gr.alloc _ _).below
                    rw [← hX12]
                    have HZ12 := Lib.hid (HZ9.out.trans ((h11.trans (g12.mono h11.size)).mono HZ9.out.size))
                    have K12 := Lib.hid ((K9.out.later h11).later g12)
                    clear hX12 g12 h11 HZ9 K9
                    go_cut [128] from 92 to 127 (fun s128 wd => s128 = .bool false ∧ Hid (Below X12.heap.size X12 wd))
                    case first =>
                      have bc : Below X12.heap.size X12 X12 := Below.refl _ _
                      have DC := Lib.hid (fun w' (hb : Below X12.heap.size X12 w') => dcells_at K12.out hb)
                      have f4 := fun w' (hb : Below X12.heap.size X12 w') => (none6_any (fun _ => nilV) (fun _ => nilV) (fun _ => []) (fun _ => []) w' (fun _ => ⟨Sl.nil _, Sl.nil _⟩) true (by simp)).mono (R' := fun e wb => e = .returned (.bool true) ∧ Below X12.heap.size X12 wb) fun e wb ⟨h1, h2⟩ => ⟨h1, hb.trans (h2.mono hb.size)⟩
                      simp only [dcs, nilV] at f4
                      have F4 := Lib.hid f4
                      clear f4 HZ12 K12 SB BB LB AP LP B8 HN
                      refine wp_region_held_drew (S := (fun w' => w'.cell? ⟨w9.heap.size, 0, none⟩ = some (.slice none 0 0) ∧ w'.cell? ⟨w9.heap.size, 1, none⟩ = some (.slice none 0 0) ∧ w'.cell? ⟨w9.heap.size, 2, none⟩ = some (.slice none 0 0) ∧ w'.cell? ⟨w9.heap.size, 3, none⟩ = some (.slice none 0 0) ∧ w'.cell? ⟨w9.heap.size, 4, none⟩ = some (.slice none 0 0) ∧ w'.cell? ⟨w9.heap.size, 5, none⟩ = some (.slice none 0 0) ∧ w'.cell? ⟨w9.heap.size, 6, none⟩ = some (.slice none 0 0) ∧ w'.cell? ⟨w9.heap.size, 7, none⟩ = some (.slice none 0 0) ∧ w'.cell? ⟨w9.heap.size, 8, none⟩ = some (.slice none 0 0) ∧ w'.cell? ⟨w9.heap.size, 9, none⟩ = some (.slice none 0 0))) (by kernel_rfl) ?_ (fun hHeld => ?_)
                      · first | exact DC.out _ bc | exact DC.out _ (bdr bc)
                      refine takeOn 0 { dst := some 92, op := Op.move (Operand.tmp 17), type := 32, pos := "law.go:206", after := #[], guard := none } (v := ?b0) rfl (by kernel_rfl) (by kernel_rfl) (by kernel_rfl) (fun _ _ _ h => h) (by rfl) (by assumption) ?yb0 ?_
                      case yb0 =>
                        intro w hSw
                        try dsimp only at hSw
                        go_simp
                        try (with_reducible rfl)
                      try simp only [Act.put, List.setIfInBounds_toArray, List.set_cons_zero, List.set_cons_succ]
                      refine takeOn 1 { dst := some 93, op := Op.binOp BinOp.eql 32 (Operand.tmp 92) (Operand.const (Value.int IntKind.i64 0)) 32, type := 4, pos := "law.go:206", after := #[{ on := 0, ground := Ground.data }], guard := none } (v := ?b1) rfl (by kernel_rfl) (by kernel_rfl) (by kernel_rfl) (fun _ _ _ h => h) (by rfl) (by assumption) ?yb1 ?_
                      case yb1 =>
                        intro w hSw
                        try dsimp only at hSw
                        go_simp
                        try (with_reducible rfl)
                      try simp only [Act.put, List.setIfInBounds_toArray, List.set_cons_zero, List.set_cons_succ]
                      refine takeOn 2 { dst := some 94, op := Op.move (Operand.tmp 20), type := 4, pos := "law.go:206", after := #[], guard := none } (v := ?b2) rfl (by kernel_rfl) (by kernel_rfl) (by kernel_rfl) (fun _ _ _ h => h) (by rfl) (by assumption) ?yb2 ?_
                      case yb2 =>
                        intro w hSw
                        try dsimp only at hSw
                        go_simp
                        try (with_reducible rfl)
                      try simp only [Act.put, List.setIfInBounds_toArray, List.set_cons_zero, List.set_cons_succ]
                      refine takeOn 3 { dst := some 95, op := Op.binOp BinOp.neq 4 (Operand.tmp 93) (Operand.tmp 94) 4, type := 4, pos := "law.go:206", after := #[{ on := 1, ground := Ground.data }, { on := 2, ground := Ground.data }], guard := none } (v := ?b3) rfl (by kernel_rfl) (by kernel_rfl) (by kernel_rfl) (fun _ _ _ h => h) (by rfl) (by assumption) ?yb3 ?_
                      case yb3 =>
                        intro w hSw
                        try dsimp only at hSw
                        go_simp
                        try (with_reducible rfl)
                      try simp only [Act.put, List.setIfInBounds_toArray, List.set_cons_zero, List.set_cons_succ]
                      refine takeOn 4 { dst := some 96, op := Op.move (Operand.tmp 95), type := 4, pos := "law.go:206", after := #[{ on := 3, ground := Ground.data }], guard := none } (v := ?b4) rfl (by kernel_rfl) (by kernel_rfl) (by kernel_rfl) (fun _ _ _ h => h) (by rfl) (by assumption) ?yb4 ?_
                      case yb4 =>
                        intro w hSw
                        try dsimp only at hSw
                        go_simp
                        try (with_reducible rfl)
                      try simp only [Act.put, List.setIfInBounds_toArray, List.set_cons_zero, List.set_cons_succ]
                      refine takeOn 5 { dst := some 97, op := Op.move (Operand.tmp 16), type := 3, pos := "law.go:206", after := #[{ on := 4, ground := Ground.guard }], guard := some (4, false) } (v := ?b5) rfl (by kernel_rfl) (by kernel_rfl) (by kernel_rfl) (fun _ _ _ h => h) (by rfl) (by assumption) ?yb5 ?_
                      case yb5 =>
                        intro w hSw
                        try dsimp only at hSw
                        go_simp
                        try (with_reducible rfl)
                      try simp only [Act.put, List.setIfInBounds_toArray, List.set_cons_zero, List.set_cons_succ]
                      refine takeOn 6 { dst := some 98, op := Op.move (Operand.tmp 19), type := 3, pos := "law.go:206", after := #[{ on := 4, ground := Ground.guard }], guard := some (4, false) } (v := ?b6) rfl (by kernel_rfl) (by kernel_rfl) (by kernel_rfl) (fun _ _ _ h => h) (by rfl) (by assumption) ?yb6 ?_
                      case yb6 =>
                        intro w hSw
                        try dsimp only at hSw
                        go_simp
                        try (with_reducible rfl)
                      try simp only [Act.put, List.setIfInBounds_toArray, List.set_cons_zero, List.set_cons_succ]
                      refine takeOn 7 { dst := some 99, op := Op.binOp BinOp.neq 3 (Operand.tmp 97) (Operand.tmp 98) 3, type := 4, pos := "law.go:206", after := #[{ on := 5, ground := Ground.data }, { on := 6, ground := Ground.data }, { on := 4, ground := Ground.guard }], guard := some (4, false) } (v := ?b7) rfl (by kernel_rfl) (by kernel_rfl) (by kernel_rfl) (fun _ _ _ h => h) (by rfl) (by assumption) ?yb7 ?_
                      case yb7 =>
                        intro w hSw
                        try dsimp only at hSw
                        go_simp
                        try (with_reducible rfl)
                      try simp only [Act.put, List.setIfInBounds_toArray, List.set_cons_zero, List.set_cons_succ]
                      refine takeOn 8 { dst := some 100, op := Op.pick (Operand.tmp 96) (Operand.const (Value.bool true)) (Operand.tmp 99), type := 4, pos := "law.go:206", after := #[{ on := 4, ground := Ground.data }, { on := 7, ground := Ground.data }], guard := none } (v := ?b8) rfl (by kernel_rfl) (by kernel_rfl) (by kernel_rfl) (fun _ _ _ h => h) (by rfl) (by assumption) ?yb8 ?_
                      case yb8 =>
                        intro w hSw
                        try dsimp only at hSw
                        go_simp
                        try (with_reducible rfl)
                      try simp only [Act.put, List.setIfInBounds_toArray, List.set_cons_zero, List.set_cons_succ]
                      refine takeOn 9 { dst := some 101, op := Op.move (Operand.tmp 100), type := 4, pos := "law.go:206", after := #[{ on := 8, ground := Ground.data }, { on := 4, ground := Ground.chain }], guard := none } (v := ?b9) rfl (by kernel_rfl) (by kernel_rfl) (by kernel_rfl) (fun _ _ _ h => h) (by rfl) (by assumption) ?yb9 ?_
                      case yb9 =>
                        intro w hSw
                        try dsimp only at hSw
                        go_simp
                        try (with_reducible rfl)
                      try simp only [Act.put, List.setIfInBounds_toArray, List.set_cons_zero, List.set_cons_succ]
                      refine takeOn 10 { dst := some 102, op := Op.move (Operand.tmp 20), type := 4, pos := "law.go:206", after := #[{ on := 9, ground := Ground.guard }], guard := some (9, false) } (v := ?b10) rfl (by kernel_rfl) (by kernel_rfl) (by kernel_rfl) (fun _ _ _ h => h) (by rfl) (by assumption) ?yb10 ?_
                      case yb10 =>
                        intro w hSw
                        try dsimp only at hSw
                        go_simp
                        try (with_reducible rfl)
                      try simp only [Act.put, List.setIfInBounds_toArray, List.set_cons_zero, List.set_cons_succ]
                      refine takeOn 11 { dst := some 103, op := Op.unOp UnOp.not 4 (Operand.tmp 102), type := 4, pos := "law.go:206", after := #[{ on := 10, ground := Ground.data }, { on := 9, ground := Ground.guard }], guard := some (9, false) } (v := ?b11) rfl (by kernel_rfl) (by kernel_rfl) (by kernel_rfl) (fun _ _ _ h => h) (by rfl) (by assumption) ?yb11 ?_
                      case yb11 =>
                        intro w hSw
                        try dsimp only at hSw
                        go_simp
                        try (with_reducible rfl)
                      try simp only [Act.put, List.setIfInBounds_toArray, List.set_cons_zero, List.set_cons_succ]
                      refine takeOn 12 { dst := some 104, op := Op.move (Operand.tmp 103), type := 4, pos := "law.go:206", after := #[{ on := 11, ground := Ground.data }, { on := 9, ground := Ground.chain }, { on := 9, ground := Ground.guard }], guard := some (9, false) } (v := ?b12) rfl (by kernel_rfl) (by kernel_rfl) (by kernel_rfl) (fun _ _ _ h => h) (by rfl) (by assumption) ?yb12 ?_
                      case yb12 =>
                        intro w hSw
                        try dsimp only at hSw
                        go_simp
                        try (with_reducible rfl)
                      try simp only [Act.put, List.setIfInBounds_toArray, List.set_cons_zero, List.set_cons_succ]
                      refine takeOn 13 { dst := some 105, op := Op.move (Operand.tmp 17), type := 32, pos := "law.go:206", after := #[{ on := 12, ground := Ground.guard }], guard := some (12, true) } (v := ?b13) rfl (by kernel_rfl) (by kernel_rfl) (by kernel_rfl) (fun _ _ _ h => h) (by rfl) (by assumption) ?yb13 ?_
                      case yb13 =>
                        intro w hSw
                        try dsimp only at hSw
                        go_simp
                        try (with_reducible rfl)
                      try simp only [Act.put, List.setIfInBounds_toArray, List.set_cons_zero, List.set_cons_succ]
                      refine takeOn 14 { dst := some 106, op := Op.binOp BinOp.neq 32 (Operand.tmp 105) (Operand.const (Value.int IntKind.i64 160)) 32, type := 4, pos := "law.go:206", after := #[{ on := 13, ground := Ground.data }, { on := 12, ground := Ground.guard }], guard := some (12, true) } (v := ?b14) rfl (by kernel_rfl) (by kernel_rfl) (by kernel_rfl) (fun _ _ _ h => h) (by rfl) (by assumption) ?yb14 ?_
                      case yb14 =>
                        intro w hSw
                        try dsimp only at hSw
                        go_simp
                        try (with_reducible rfl)
                      try simp only [Act.put, List.setIfInBounds_toArray, List.set_cons_zero, List.set_cons_succ]
                      refine takeOn 15 { dst := some 107, op := Op.move (Operand.tmp 106), type := 4, pos := "law.go:206", after := #[{ on := 14, ground := Ground.data }, { on := 12, ground := Ground.chain }, { on := 12, ground := Ground.guard }], guard := some (12, true) } (v := ?b15) rfl (by kernel_rfl) (by kernel_rfl) (by kernel_rfl) (fun _ _ _ h => h) (by rfl) (by assumption) ?yb15 ?_
                      case yb15 =>
                        intro w hSw
                        try dsimp only at hSw
                        go_simp
                        try (with_reducible rfl)
                      try simp only [Act.put, List.setIfInBounds_toArray, List.set_cons_zero, List.set_cons_succ]
                      refine takeOn 16 { dst := some 108, op := Op.load 28 (Operand.tmp 15), type := 28, pos := "law.go:206", after := #[{ on := 15, ground := Ground.guard }], guard := some (15, false) } (v := ?b16) rfl (by kernel_rfl) (by kernel_rfl) (by kernel_rfl) (fun _ _ _ h => h) (by rfl) (by assumption) ?yb16 ?_
                      case yb16 =>
                        intro w hSw
                        try dsimp only at hSw
                        go_simp
                        try (with_reducible rfl)
                      try simp only [Act.put, List.setIfInBounds_toArray, List.set_cons_zero, List.set_cons_succ]
                      refine wpAnyH_ready (rs := [17]) (by kernel_rfl) (by simp) ?_
                      refine (AllReadyH.cons (o := { dst := some 109, op := Op.call { callee := Callee.value (Operand.func 28), args := #[Operand.tmp 108], argTypes := #[28] }, type := 4, pos := "law.go:206", after := #[{ on := 16, ground := Ground.data }, { on := 15, ground := Ground.chain }, { on := 15, ground := Ground.guard }], guard := some (15, false) }) rfl (fun K hK => ?_) AllReadyH.nil)
                      · skip
                        go_simp
                        (with_reducible refine (F4.out _ (by first | exact bc | exact bdr bc)).mono ?_)
                        rintro e wb ⟨rfl, bc⟩
                        try (go_wp2_with fail)
                        refine hK.out _ _ ?_ (fun hHeld => ?_)
                        · first | exact DC.out _ bc | exact DC.out _ (bdr bc)
                        clear hK K
                        try simp only [Act.put, List.setIfInBounds_toArray, List.set_cons_zero, List.set_cons_succ]
                        refine takeOn 18 { dst := some 110, op := Op.unOp UnOp.not 4 (Operand.tmp 109), type := 4, pos := "law.go:206", after := #[{ on := 17, ground := Ground.data }, { on := 15, ground := Ground.guard }], guard := some (15, false) } (v := ?b17) rfl (by kernel_rfl) (by kernel_rfl) (by kernel_rfl) (fun _ _ _ h => h) (by rfl) (by assumption) ?yb17 ?_
                        case yb17 =>
                          intro w hSw
                          try dsimp only at hSw
                          go_simp
                          try (with_reducible rfl)
                        try simp only [Act.put, List.setIfInBounds_toArray, List.set_cons_zero, List.set_cons_succ]
                        refine takeOn 19 { dst := some 111, op := Op.pick (Operand.tmp 107) (Operand.const (Value.bool true)) (Operand.tmp 110), type := 4, pos := "law.go:206", after := #[{ on := 15, ground := Ground.data }, { on := 18, ground := Ground.data }, { on := 12, ground := Ground.guard }], guard := some (12, true) } (v := ?b18) rfl (by kernel_rfl) (by kernel_rfl) (by kernel_rfl) (fun _ _ _ h => h) (by rfl) (by assumption) ?yb18 ?_
                        case yb18 =>
                          intro w hSw
                          try dsimp only at hSw
                          go_simp
                          try (with_reducible rfl)
                        try simp only [Act.put, List.setIfInBounds_toArray, List.set_cons_zero, List.set_cons_succ]
                        refine takeOn 20 { dst := some 112, op := Op.pick (Operand.tmp 104) (Operand.tmp 111) (Operand.const (Value.bool false)), type := 4, pos := "law.go:206", after := #[{ on := 12, ground := Ground.data }, { on := 19, ground := Ground.data }, { on := 9, ground := Ground.guard }], guard := some (9, false) } (v := ?b19) rfl (by kernel_rfl) (by kernel_rfl) (by kernel_rfl) (fun _ _ _ h => h) (by rfl) (by assumption) ?yb19 ?_
                        case yb19 =>
                          intro w hSw
                          try dsimp only at hSw
                          go_simp
                          try (with_reducible rfl)
                        try simp only [Act.put, List.setIfInBounds_toArray, List.set_cons_zero, List.set_cons_succ]
                        refine takeOn 21 { dst := some 113, op := Op.pick (Operand.tmp 101) (Operand.const (Value.bool true)) (Operand.tmp 112), type := 4, pos := "law.go:206", after := #[{ on := 9, ground := Ground.data }, { on := 20, ground := Ground.data }], guard := none } (v := ?b20) rfl (by kernel_rfl) (by kernel_rfl) (by kernel_rfl) (fun _ _ _ h => h) (by rfl) (by assumption) ?yb20 ?_
                        case yb20 =>
                          intro w hSw
                          try dsimp only at hSw
                          go_simp
                          try (with_reducible rfl)
                        try simp only [Act.put, List.setIfInBounds_toArray, List.set_cons_zero, List.set_cons_succ]
                        refine takeOn 22 { dst := some 114, op := Op.move (Operand.tmp 113), type := 4, pos := "law.go:206", after := #[{ on := 21, ground := Ground.data }, { on := 17, ground := Ground.chain }], guard := none } (v := ?b21) rfl (by kernel_rfl) (by kernel_rfl) (by kernel_rfl) (fun _ _ _ h => h) (by rfl) (by assumption) ?yb21 ?_
                        case yb21 =>
                          intro w hSw
                          try dsimp only at hSw
                          go_simp
                          try (with_reducible rfl)
                        try simp only [Act.put, List.setIfInBounds_toArray, List.set_cons_zero, List.set_cons_succ]
                        refine takeOn 23 { dst := some 115, op := Op.move (Operand.tmp 20), type := 4, pos := "law.go:206", after := #[{ on := 22, ground := Ground.guard }], guard := some (22, false) } (v := ?b22) rfl (by kernel_rfl) (by kernel_rfl) (by kernel_rfl) (fun _ _ _ h => h) (by rfl) (by assumption) ?yb22 ?_
                        case yb22 =>
                          intro w hSw
                          try dsimp only at hSw
                          go_simp
                          try (with_reducible rfl)
                        try simp only [Act.put, List.setIfInBounds_toArray, List.set_cons_zero, List.set_cons_succ]
                        refine takeOn 24 { dst := some 116, op := Op.move (Operand.tmp 115), type := 4, pos := "law.go:206", after := #[{ on := 23, ground := Ground.data }, { on := 22, ground := Ground.chain }, { on := 22, ground := Ground.guard }], guard := some (22, false) } (v := ?b23) rfl (by kernel_rfl) (by kernel_rfl) (by kernel_rfl) (fun _ _ _ h => h) (by rfl) (by assumption) ?yb23 ?_
                        case yb23 =>
                          intro w hSw
                          try dsimp only at hSw
                          go_simp
                          try (with_reducible rfl)
                        try simp only [Act.put, List.setIfInBounds_toArray, List.set_cons_zero, List.set_cons_succ]
                        refine takeOff 25 { dst := some 117, op := Op.load 28 (Operand.tmp 15), type := 28, pos := "law.go:206", after := #[{ on := 24, ground := Ground.guard }], guard := some (24, true) } rfl (by kernel_rfl) (by kernel_rfl) (by kernel_rfl) (fun _ _ _ h => h) (by rfl) (by assumption) ?_
                        try simp only [Act.put, List.setIfInBounds_toArray, List.set_cons_zero, List.set_cons_succ]
                        refine takeOff 26 { dst := some 118, op := Op.call { callee := Callee.value (Operand.func 12), args := #[Operand.tmp 117], argTypes := #[28] }, type := 4, pos := "law.go:206", after := #[{ on := 25, ground := Ground.data }, { on := 24, ground := Ground.chain }, { on := 24, ground := Ground.guard }], guard := some (24, true) } rfl (by kernel_rfl) (by kernel_rfl) (by kernel_rfl) (fun _ _ _ h => h) (by rfl) (by assumption) ?_
                        try simp only [Act.put, List.setIfInBounds_toArray, List.set_cons_zero, List.set_cons_succ]
                        refine takeOff 27 { dst := some 119, op := Op.unOp UnOp.not 4 (Operand.tmp 118), type := 4, pos := "law.go:206", after := #[{ on := 26, ground := Ground.data }, { on := 24, ground := Ground.guard }], guard := some (24, true) } rfl (by kernel_rfl) (by kernel_rfl) (by kernel_rfl) (fun _ _ _ h => h) (by rfl) (by assumption) ?_
                        try simp only [Act.put, List.setIfInBounds_toArray, List.set_cons_zero, List.set_cons_succ]
                        refine takeOff 28 { dst := some 120, op := Op.move (Operand.tmp 119), type := 4, pos := "law.go:206", after := #[{ on := 27, ground := Ground.data }, { on := 26, ground := Ground.chain }, { on := 24, ground := Ground.guard }], guard := some (24, true) } rfl (by kernel_rfl) (by kernel_rfl) (by kernel_rfl) (fun _ _ _ h => h) (by rfl) (by assumption) ?_
                        try simp only [Act.put, List.setIfInBounds_toArray, List.set_cons_zero, List.set_cons_succ]
                        refine takeOff 29 { dst := some 121, op := Op.load 28 (Operand.tmp 15), type := 28, pos := "law.go:206", after := #[{ on := 28, ground := Ground.guard }], guard := some (28, false) } rfl (by kernel_rfl) (by kernel_rfl) (by kernel_rfl) (fun _ _ _ h => h) (by rfl) (by assumption) ?_
                        try simp only [Act.put, List.setIfInBounds_toArray, List.set_cons_zero, List.set_cons_succ]
                        refine takeOff 30 { dst := some 122, op := Op.call { callee := Callee.value (Operand.func 16), args := #[Operand.tmp 121], argTypes := #[28] }, type := 37, pos := "law.go:206", after := #[{ on := 29, ground := Ground.data }, { on := 28, ground := Ground.chain }, { on := 28, ground := Ground.guard }], guard := some (28, false) } rfl (by kernel_rfl) (by kernel_rfl) (by kernel_rfl) (fun _ _ _ h => h) (by rfl) (by assumption) ?_
                        try simp only [Act.put, List.setIfInBounds_toArray, List.set_cons_zero, List.set_cons_succ]
                        refine takeOff 31 { dst := some 123, op := Op.load 37 (Operand.tmp 18), type := 37, pos := "law.go:206", after := #[{ on := 28, ground := Ground.guard }], guard := some (28, false) } rfl (by kernel_rfl) (by kernel_rfl) (by kernel_rfl) (fun _ _ _ h => h) (by rfl) (by assumption) ?_
                        try simp only [Act.put, List.setIfInBounds_toArray, List.set_cons_zero, List.set_cons_succ]
                        refine takeOff 32 { dst := some 124, op := Op.call { callee := Callee.value (Operand.func 15), args := #[Operand.tmp 122, Operand.tmp 123], argTypes := #[37, 37] }, type := 4, pos := "law.go:206", after := #[{ on := 30, ground := Ground.data }, { on := 31, ground := Ground.data }, { on := 30, ground := Ground.chain }, { on := 28, ground := Ground.guard }], guard := some (28, false) } rfl (by kernel_rfl) (by kernel_rfl) (by kernel_rfl) (fun _ _ _ h => h) (by rfl) (by assumption) ?_
                        try simp only [Act.put, List.setIfInBounds_toArray, List.set_cons_zero, List.set_cons_succ]
                        refine takeOff 33 { dst := some 125, op := Op.unOp UnOp.not 4 (Operand.tmp 124), type := 4, pos := "law.go:206", after := #[{ on := 32, ground := Ground.data }, { on := 28, ground := Ground.guard }], guard := some (28, false) } rfl (by kernel_rfl) (by kernel_rfl) (by kernel_rfl) (fun _ _ _ h => h) (by rfl) (by assumption) ?_
                        try simp only [Act.put, List.setIfInBounds_toArray, List.set_cons_zero, List.set_cons_succ]
                        refine takeOff 34 { dst := some 126, op := Op.pick (Operand.tmp 120) (Operand.const (Value.bool true)) (Operand.tmp 125), type := 4, pos := "law.go:206", after := #[{ on := 28, ground := Ground.data }, { on := 33, ground := Ground.data }, { on := 24, ground := Ground.guard }], guard := some (24, true) } rfl (by kernel_rfl) (by kernel_rfl) (by kernel_rfl) (fun _ _ _ h => h) (by rfl) (by assumption) ?_
                        try simp only [Act.put, List.setIfInBounds_toArray, List.set_cons_zero, List.set_cons_succ]
                        refine takeOn 35 { dst := some 127, op := Op.pick (Operand.tmp 116) (Operand.tmp 126) (Operand.const (Value.bool false)), type := 4, pos := "law.go:206", after := #[{ on := 24, ground := Ground.data }, { on := 34, ground := Ground.data }, { on := 22, ground := Ground.guard }], guard := some (22, false) } (v := ?b34) rfl (by kernel_rfl) (by kernel_rfl) (by kernel_rfl) (fun _ _ _ h => h) (by rfl) (by assumption) ?yb34 ?_
                        case yb34 =>
                          intro w hSw
                          try dsimp only at hSw
                          go_simp
                          try (with_reducible rfl)
                        try simp only [Act.put, List.setIfInBounds_toArray, List.set_cons_zero, List.set_cons_succ]
                        refine takeOn 36 { dst := some 128, op := Op.pick (Operand.tmp 114) (Operand.const (Value.bool true)) (Operand.tmp 127), type := 4, pos := "law.go:206", after := #[{ on := 22, ground := Ground.data }, { on := 35, ground := Ground.data }], guard := none } (v := ?b35) rfl (by kernel_rfl) (by kernel_rfl) (by kernel_rfl) (fun _ _ _ h => h) (by rfl) (by assumption) ?yb35 ?_
                        case yb35 =>
                          intro w hSw
                          try dsimp only at hSw
                          go_simp
                          try (with_reducible rfl)
                        try simp only [Act.put, List.setIfInBounds_toArray, List.set_cons_zero, List.set_cons_succ]
                        refine wpAnyH_done (by kernel_rfl) ?_ _
                        go_wp2
                        go_meet
                        exact ⟨rfl, Lib.hid bc⟩
                    case rest =>
                      obtain ⟨rfl, HB13⟩ := hcut
                      have HZ13 := Lib.hid (HZ12.out.trans (HB13.out.mono HZ12.out.size))
                      clear HZ12 HB13 K12
                      go_wp2
                      go_roundw
                      case rel => exact ⟨k + 1, by omega, by go_num, HZ13⟩
                      case measure => simp [intOf]; omega
                | ok _ L q S9 G H hs ho hg hl h9 =>
                  have HS := Lib.hid hs
                  have GG := Lib.hid hg
                  have LG := Lib.hid hl
                  obtain ⟨X9, hX9⟩ : ∃ X, X = w9.alloc (.cells (dcs G H) 28) := ⟨_, rfl⟩
                  have eX9 : w9.alloc (.cells #[G 0, H 0, G 1, H 1, G 2, H 2, G 3, H 3, G 4, H 4] 28) = X9 := hX9.symm
                  have k9 : Blk X9 w9.heap.size (dcs G H) 28 := by rw [hX9]; exact Blk.new _ _ _
                  have g9 : Below w9.heap.size w9 X9 := by rw [hX9]; exact (Gr.alloc _ _).below
                  obtain ⟨sa, sb⟩ := ho.slA
                  have hsa := fun k w p m => st_slice (P := Try.prog) sa k w p m
                  have hsb := fun k w p m => st_slice (P := Try.prog) sb k w p m
                  have HZ9 := Lib.hid (HZ.out.trans ((h9.trans (g9.mono h9.size)).mono HZ.out.size))
                  have K9 := Lib.hid k9
                  have O9 := Lib.hid (ho.later g9)
                  clear hX9 h9 g9 k9 HZ d hs hg hl ho sa sb
                  simp only [dcs]
                  go_wp2_with fail
                  clear eX9 hsa hsb
                  refine (eread_any p _ bs X9 (SB.out.later HZ9.out) BB.out (by rw [LB.out]; omega) (by rw [LB.out]; exact hpm)).mono ?_
                  rintro e w11 ⟨h11, ⟨L', q', NW, hs, rfl, hN⟩ | ⟨hn, _⟩⟩
                  · obtain ⟨rfl, rfl⟩ : L = L' ∧ q = q' := by rw [HS.out] at hs; injection hs with hs; injection hs with h1 h2; exact ⟨h1, h2⟩
                    obtain ⟨X12, hX12⟩ : ∃ X, X = w11.alloc (.cells (nms NW) 37) := ⟨_, rfl⟩
                    have eX12 : w11.alloc (.cells #[NW 0, NW 1, NW 2, NW 3, NW 4] 37) = X12 := hX12.symm
                    have g12 : Below w11.heap.size w11 X12 := by rw [hX12]; exact (Gr.alloc _ _).below
                    have k12 : Blk X12 w11.heap.size (nms NW) 37 := by rw [hX12]; exact Blk.new _ _ _
                    have sN : ∀ k, ∃ o m c, NW k = .slice o m c := fun k => by obtain ⟨o, c, e, _⟩ := (hN k).mshape; exact ⟨o, _, c, e⟩
                    have hsa := fun k w p m => st_slice (P := Try.prog) sN k w p m
                    have HZ12 := Lib.hid (HZ9.out.trans ((h11.trans (g12.mono h11.size)).mono HZ9.out.size))
                    have K12 := Lib.hid ((K9.out.later h11).later g12)
                    have O12 := Lib.hid ((O9.out.later h11).later g12)
                    have KN12 := Lib.hid k12
                    have SN12 := Lib.hid (fun k => (hN k).later g12)
                    clear hX12 g12 h11 HZ9 K9 O9 k12 sN hN hs
                    simp only [nms]
                    go_upto_region 21 with fail
                    clear eX12 hsa
                    go_cut [128] from 92 to 127 (fun s128 wd => s128 = .bool false ∧ Hid (Below X12.heap.size X12 wd))
                    case first =>
                      have bc : Below X12.heap.size X12 X12 := Below.refl _ _
                      have DC := Lib.hid (fun w' (hb : Below X12.heap.size X12 w') => And.intro (dcells_at K12.out hb) (ncells (KN12.out.later hb)))
                      have hqq : ((q : Int) != (q : Int)) = false := by simp
                      have f1 := fun w' (hb : Below X12.heap.size X12 w') => (eright_any G H (ofL L) S9 w' (O12.out.later hb).sl LG.out true (by simp [GG.out])).mono (R' := fun e wb => e = .returned (.bool true) ∧ Below X12.heap.size X12 wb) fun e wb ⟨h1, h2⟩ => ⟨h1, hb.trans (h2.mono hb.size)⟩
                      have f2 := fun w' (hb : Below X12.heap.size X12 w') => (eof_any G H O12.out.slA.1 O12.out.slA.2 w').mono (R' := fun e wb => e = .returned (.agg (nms G)) ∧ Below X12.heap.size X12 wb) fun e wb ⟨h1, h2⟩ => ⟨h1, hb.trans (h2.mono hb.size)⟩
                      have f3 := fun w' (hb : Below X12.heap.size X12 w') => (esame_any G NW (ofL L) (ofL L) w' (fun k => ((O12.out.later hb).sl k).1) (fun k => (SN12.out k).later hb) true (by simp)).mono (R' := fun e wb => e = .returned (.bool true) ∧ Below X12.heap.size X12 wb) fun e wb ⟨h1, h2⟩ => ⟨h1, hb.trans (h2.mono hb.size)⟩
                      simp only [dcs, nms] at f1 f2 f3
                      have F1 := Lib.hid f1
                      have F2 := Lib.hid f2
                      have F3 := Lib.hid f3
                      clear f1 f2 f3 HZ12 K12 O12 KN12 SN12 SB BB LB AP LP B8 HS GG LG
                      refine wp_region_held_drew (S := (fun w' => (w'.cell? ⟨w9.heap.size, 0, none⟩ = some (G 0) ∧ w'.cell? ⟨w9.heap.size, 1, none⟩ = some (H 0) ∧ w'.cell? ⟨w9.heap.size, 2, none⟩ = some (G 1) ∧ w'.cell? ⟨w9.heap.size, 3, none⟩ = some (H 1) ∧ w'.cell? ⟨w9.heap.size, 4, none⟩ = some (G 2) ∧ w'.cell? ⟨w9.heap.size, 5, none⟩ = some (H 2) ∧ w'.cell? ⟨w9.heap.size, 6, none⟩ = some (G 3) ∧ w'.cell? ⟨w9.heap.size, 7, none⟩ = some (H 3) ∧ w'.cell? ⟨w9.heap.size, 8, none⟩ = some (G 4) ∧ w'.cell? ⟨w9.heap.size, 9, none⟩ = some (H 4)) ∧ w'.cell? ⟨w11.heap.size, 0, none⟩ = some (NW 0) ∧ w'.cell? ⟨w11.heap.size, 1, none⟩ = some (NW 1) ∧ w'.cell? ⟨w11.heap.size, 2, none⟩ = some (NW 2) ∧ w'.cell? ⟨w11.heap.size, 3, none⟩ = some (NW 3) ∧ w'.cell? ⟨w11.heap.size, 4, none⟩ = some (NW 4))) (by kernel_rfl) ?_ (fun hHeld => ?_)
                      · first | exact DC.out _ bc | exact DC.out _ (bdr bc)
                      refine takeOn 0 { dst := some 92, op := Op.move (Operand.tmp 17), type := 32, pos := "law.go:206", after := #[], guard := none } (v := ?c0) rfl (by kernel_rfl) (by kernel_rfl) (by kernel_rfl) (fun _ _ _ h => h) (by rfl) (by assumption) ?yc0 ?_
                      case yc0 =>
                        intro w hSw
                        try dsimp only at hSw
                        go_simp
                        try (with_reducible rfl)
                      try simp only [Act.put, List.setIfInBounds_toArray, List.set_cons_zero, List.set_cons_succ]
                      refine takeOn 1 { dst := some 93, op := Op.binOp BinOp.eql 32 (Operand.tmp 92) (Operand.const (Value.int IntKind.i64 0)) 32, type := 4, pos := "law.go:206", after := #[{ on := 0, ground := Ground.data }], guard := none } (v := ?c1) rfl (by kernel_rfl) (by kernel_rfl) (by kernel_rfl) (fun _ _ _ h => h) (by rfl) (by assumption) ?yc1 ?_
                      case yc1 =>
                        intro w hSw
                        try dsimp only at hSw
                        go_simp
                        try (with_reducible rfl)
                      try simp only [Act.put, List.setIfInBounds_toArray, List.set_cons_zero, List.set_cons_succ]
                      refine takeOn 2 { dst := some 94, op := Op.move (Operand.tmp 20), type := 4, pos := "law.go:206", after := #[], guard := none } (v := ?c2) rfl (by kernel_rfl) (by kernel_rfl) (by kernel_rfl) (fun _ _ _ h => h) (by rfl) (by assumption) ?yc2 ?_
                      case yc2 =>
                        intro w hSw
                        try dsimp only at hSw
                        go_simp
                        try (with_reducible rfl)
                      try simp only [Act.put, List.setIfInBounds_toArray, List.set_cons_zero, List.set_cons_succ]
                      refine takeOn 3 { dst := some 95, op := Op.binOp BinOp.neq 4 (Operand.tmp 93) (Operand.tmp 94) 4, type := 4, pos := "law.go:206", after := #[{ on := 1, ground := Ground.data }, { on := 2, ground := Ground.data }], guard := none } (v := ?c3) rfl (by kernel_rfl) (by kernel_rfl) (by kernel_rfl) (fun _ _ _ h => h) (by rfl) (by assumption) ?yc3 ?_
                      case yc3 =>
                        intro w hSw
                        try dsimp only at hSw
                        go_simp
                        try (with_reducible rfl)
                      try simp only [Act.put, List.setIfInBounds_toArray, List.set_cons_zero, List.set_cons_succ]
                      refine takeOn 4 { dst := some 96, op := Op.move (Operand.tmp 95), type := 4, pos := "law.go:206", after := #[{ on := 3, ground := Ground.data }], guard := none } (v := ?c4) rfl (by kernel_rfl) (by kernel_rfl) (by kernel_rfl) (fun _ _ _ h => h) (by rfl) (by assumption) ?yc4 ?_
                      case yc4 =>
                        intro w hSw
                        try dsimp only at hSw
                        go_simp
                        try (with_reducible rfl)
                      try simp only [Act.put, List.setIfInBounds_toArray, List.set_cons_zero, List.set_cons_succ]
                      refine takeOn 5 { dst := some 97, op := Op.move (Operand.tmp 16), type := 3, pos := "law.go:206", after := #[{ on := 4, ground := Ground.guard }], guard := some (4, false) } (v := ?c5) rfl (by kernel_rfl) (by kernel_rfl) (by kernel_rfl) (fun _ _ _ h => h) (by rfl) (by assumption) ?yc5 ?_
                      case yc5 =>
                        intro w hSw
                        try dsimp only at hSw
                        go_simp
                        try (with_reducible rfl)
                      try simp only [Act.put, List.setIfInBounds_toArray, List.set_cons_zero, List.set_cons_succ]
                      refine takeOn 6 { dst := some 98, op := Op.move (Operand.tmp 19), type := 3, pos := "law.go:206", after := #[{ on := 4, ground := Ground.guard }], guard := some (4, false) } (v := ?c6) rfl (by kernel_rfl) (by kernel_rfl) (by kernel_rfl) (fun _ _ _ h => h) (by rfl) (by assumption) ?yc6 ?_
                      case yc6 =>
                        intro w hSw
                        try dsimp only at hSw
                        go_simp
                        try (with_reducible rfl)
                      try simp only [Act.put, List.setIfInBounds_toArray, List.set_cons_zero, List.set_cons_succ]
                      refine takeOn 7 { dst := some 99, op := Op.binOp BinOp.neq 3 (Operand.tmp 97) (Operand.tmp 98) 3, type := 4, pos := "law.go:206", after := #[{ on := 5, ground := Ground.data }, { on := 6, ground := Ground.data }, { on := 4, ground := Ground.guard }], guard := some (4, false) } (v := ?c7) rfl (by kernel_rfl) (by kernel_rfl) (by kernel_rfl) (fun _ _ _ h => h) (by rfl) (by assumption) ?yc7 ?_
                      case yc7 =>
                        intro w hSw
                        try dsimp only at hSw
                        go_simp
                        try (with_reducible rfl)
                      try simp only [Act.put, List.setIfInBounds_toArray, List.set_cons_zero, List.set_cons_succ]
                      refine takeOn 8 { dst := some 100, op := Op.pick (Operand.tmp 96) (Operand.const (Value.bool true)) (Operand.tmp 99), type := 4, pos := "law.go:206", after := #[{ on := 4, ground := Ground.data }, { on := 7, ground := Ground.data }], guard := none } (v := ?c8) rfl (by kernel_rfl) (by kernel_rfl) (by kernel_rfl) (fun _ _ _ h => h) (by rfl) (by assumption) ?yc8 ?_
                      case yc8 =>
                        intro w hSw
                        try dsimp only at hSw
                        go_simp
                        try (with_reducible rfl)
                      try simp only [Act.put, List.setIfInBounds_toArray, List.set_cons_zero, List.set_cons_succ]
                      refine takeOn 9 { dst := some 101, op := Op.move (Operand.tmp 100), type := 4, pos := "law.go:206", after := #[{ on := 8, ground := Ground.data }, { on := 4, ground := Ground.chain }], guard := none } (v := ?c9) rfl (by kernel_rfl) (by kernel_rfl) (by kernel_rfl) (fun _ _ _ h => h) (by rfl) (by assumption) ?yc9 ?_
                      case yc9 =>
                        intro w hSw
                        try dsimp only at hSw
                        go_simp
                        try (with_reducible rfl)
                      try simp only [Act.put, List.setIfInBounds_toArray, List.set_cons_zero, List.set_cons_succ]
                      refine takeOn 10 { dst := some 102, op := Op.move (Operand.tmp 20), type := 4, pos := "law.go:206", after := #[{ on := 9, ground := Ground.guard }], guard := some (9, false) } (v := ?c10) rfl (by kernel_rfl) (by kernel_rfl) (by kernel_rfl) (fun _ _ _ h => h) (by rfl) (by assumption) ?yc10 ?_
                      case yc10 =>
                        intro w hSw
                        try dsimp only at hSw
                        go_simp
                        try (with_reducible rfl)
                      try simp only [Act.put, List.setIfInBounds_toArray, List.set_cons_zero, List.set_cons_succ]
                      refine takeOn 11 { dst := some 103, op := Op.unOp UnOp.not 4 (Operand.tmp 102), type := 4, pos := "law.go:206", after := #[{ on := 10, ground := Ground.data }, { on := 9, ground := Ground.guard }], guard := some (9, false) } (v := ?c11) rfl (by kernel_rfl) (by kernel_rfl) (by kernel_rfl) (fun _ _ _ h => h) (by rfl) (by assumption) ?yc11 ?_
                      case yc11 =>
                        intro w hSw
                        try dsimp only at hSw
                        go_simp
                        try (with_reducible rfl)
                      try simp only [Act.put, List.setIfInBounds_toArray, List.set_cons_zero, List.set_cons_succ]
                      refine takeOn 12 { dst := some 104, op := Op.move (Operand.tmp 103), type := 4, pos := "law.go:206", after := #[{ on := 11, ground := Ground.data }, { on := 9, ground := Ground.chain }, { on := 9, ground := Ground.guard }], guard := some (9, false) } (v := ?c12) rfl (by kernel_rfl) (by kernel_rfl) (by kernel_rfl) (fun _ _ _ h => h) (by rfl) (by assumption) ?yc12 ?_
                      case yc12 =>
                        intro w hSw
                        try dsimp only at hSw
                        go_simp
                        try (with_reducible rfl)
                      try simp only [Act.put, List.setIfInBounds_toArray, List.set_cons_zero, List.set_cons_succ]
                      refine takeOff 13 { dst := some 105, op := Op.move (Operand.tmp 17), type := 32, pos := "law.go:206", after := #[{ on := 12, ground := Ground.guard }], guard := some (12, true) } rfl (by kernel_rfl) (by kernel_rfl) (by kernel_rfl) (fun _ _ _ h => h) (by rfl) (by assumption) ?_
                      try simp only [Act.put, List.setIfInBounds_toArray, List.set_cons_zero, List.set_cons_succ]
                      refine takeOff 14 { dst := some 106, op := Op.binOp BinOp.neq 32 (Operand.tmp 105) (Operand.const (Value.int IntKind.i64 160)) 32, type := 4, pos := "law.go:206", after := #[{ on := 13, ground := Ground.data }, { on := 12, ground := Ground.guard }], guard := some (12, true) } rfl (by kernel_rfl) (by kernel_rfl) (by kernel_rfl) (fun _ _ _ h => h) (by rfl) (by assumption) ?_
                      try simp only [Act.put, List.setIfInBounds_toArray, List.set_cons_zero, List.set_cons_succ]
                      refine takeOff 15 { dst := some 107, op := Op.move (Operand.tmp 106), type := 4, pos := "law.go:206", after := #[{ on := 14, ground := Ground.data }, { on := 12, ground := Ground.chain }, { on := 12, ground := Ground.guard }], guard := some (12, true) } rfl (by kernel_rfl) (by kernel_rfl) (by kernel_rfl) (fun _ _ _ h => h) (by rfl) (by assumption) ?_
                      try simp only [Act.put, List.setIfInBounds_toArray, List.set_cons_zero, List.set_cons_succ]
                      refine takeOff 16 { dst := some 108, op := Op.load 28 (Operand.tmp 15), type := 28, pos := "law.go:206", after := #[{ on := 15, ground := Ground.guard }], guard := some (15, false) } rfl (by kernel_rfl) (by kernel_rfl) (by kernel_rfl) (fun _ _ _ h => h) (by rfl) (by assumption) ?_
                      try simp only [Act.put, List.setIfInBounds_toArray, List.set_cons_zero, List.set_cons_succ]
                      refine takeOff 17 { dst := some 109, op := Op.call { callee := Callee.value (Operand.func 28), args := #[Operand.tmp 108], argTypes := #[28] }, type := 4, pos := "law.go:206", after := #[{ on := 16, ground := Ground.data }, { on := 15, ground := Ground.chain }, { on := 15, ground := Ground.guard }], guard := some (15, false) } rfl (by kernel_rfl) (by kernel_rfl) (by kernel_rfl) (fun _ _ _ h => h) (by rfl) (by assumption) ?_
                      try simp only [Act.put, List.setIfInBounds_toArray, List.set_cons_zero, List.set_cons_succ]
                      refine takeOff 18 { dst := some 110, op := Op.unOp UnOp.not 4 (Operand.tmp 109), type := 4, pos := "law.go:206", after := #[{ on := 17, ground := Ground.data }, { on := 15, ground := Ground.guard }], guard := some (15, false) } rfl (by kernel_rfl) (by kernel_rfl) (by kernel_rfl) (fun _ _ _ h => h) (by rfl) (by assumption) ?_
                      try simp only [Act.put, List.setIfInBounds_toArray, List.set_cons_zero, List.set_cons_succ]
                      refine takeOff 19 { dst := some 111, op := Op.pick (Operand.tmp 107) (Operand.const (Value.bool true)) (Operand.tmp 110), type := 4, pos := "law.go:206", after := #[{ on := 15, ground := Ground.data }, { on := 18, ground := Ground.data }, { on := 12, ground := Ground.guard }], guard := some (12, true) } rfl (by kernel_rfl) (by kernel_rfl) (by kernel_rfl) (fun _ _ _ h => h) (by rfl) (by assumption) ?_
                      try simp only [Act.put, List.setIfInBounds_toArray, List.set_cons_zero, List.set_cons_succ]
                      refine takeOn 20 { dst := some 112, op := Op.pick (Operand.tmp 104) (Operand.tmp 111) (Operand.const (Value.bool false)), type := 4, pos := "law.go:206", after := #[{ on := 12, ground := Ground.data }, { on := 19, ground := Ground.data }, { on := 9, ground := Ground.guard }], guard := some (9, false) } (v := ?c20) rfl (by kernel_rfl) (by kernel_rfl) (by kernel_rfl) (fun _ _ _ h => h) (by rfl) (by assumption) ?yc20 ?_
                      case yc20 =>
                        intro w hSw
                        try dsimp only at hSw
                        go_simp
                        try (with_reducible rfl)
                      try simp only [Act.put, List.setIfInBounds_toArray, List.set_cons_zero, List.set_cons_succ]
                      refine takeOn 21 { dst := some 113, op := Op.pick (Operand.tmp 101) (Operand.const (Value.bool true)) (Operand.tmp 112), type := 4, pos := "law.go:206", after := #[{ on := 9, ground := Ground.data }, { on := 20, ground := Ground.data }], guard := none } (v := ?c21) rfl (by kernel_rfl) (by kernel_rfl) (by kernel_rfl) (fun _ _ _ h => h) (by rfl) (by assumption) ?yc21 ?_
                      case yc21 =>
                        intro w hSw
                        try dsimp only at hSw
                        go_simp
                        try (with_reducible rfl)
                      try simp only [Act.put, List.setIfInBounds_toArray, List.set_cons_zero, List.set_cons_succ]
                      refine takeOn 22 { dst := some 114, op := Op.move (Operand.tmp 113), type := 4, pos := "law.go:206", after := #[{ on := 21, ground := Ground.data }, { on := 17, ground := Ground.chain }], guard := none } (v := ?c22) rfl (by kernel_rfl) (by kernel_rfl) (by kernel_rfl) (fun _ _ _ h => h) (by rfl) (by assumption) ?yc22 ?_
                      case yc22 =>
                        intro w hSw
                        try dsimp only at hSw
                        go_simp
                        try (with_reducible rfl)
                      try simp only [Act.put, List.setIfInBounds_toArray, List.set_cons_zero, List.set_cons_succ]
                      refine takeOn 23 { dst := some 115, op := Op.move (Operand.tmp 20), type := 4, pos := "law.go:206", after := #[{ on := 22, ground := Ground.guard }], guard := some (22, false) } (v := ?c23) rfl (by kernel_rfl) (by kernel_rfl) (by kernel_rfl) (fun _ _ _ h => h) (by rfl) (by assumption) ?yc23 ?_
                      case yc23 =>
                        intro w hSw
                        try dsimp only at hSw
                        go_simp
                        try (with_reducible rfl)
                      try simp only [Act.put, List.setIfInBounds_toArray, List.set_cons_zero, List.set_cons_succ]
                      refine takeOn 24 { dst := some 116, op := Op.move (Operand.tmp 115), type := 4, pos := "law.go:206", after := #[{ on := 23, ground := Ground.data }, { on := 22, ground := Ground.chain }, { on := 22, ground := Ground.guard }], guard := some (22, false) } (v := ?c24) rfl (by kernel_rfl) (by kernel_rfl) (by kernel_rfl) (fun _ _ _ h => h) (by rfl) (by assumption) ?yc24 ?_
                      case yc24 =>
                        intro w hSw
                        try dsimp only at hSw
                        go_simp
                        try (with_reducible rfl)
                      try simp only [Act.put, List.setIfInBounds_toArray, List.set_cons_zero, List.set_cons_succ]
                      refine takeOn 25 { dst := some 117, op := Op.load 28 (Operand.tmp 15), type := 28, pos := "law.go:206", after := #[{ on := 24, ground := Ground.guard }], guard := some (24, true) } (v := ?c25) rfl (by kernel_rfl) (by kernel_rfl) (by kernel_rfl) (fun _ _ _ h => h) (by rfl) (by assumption) ?yc25 ?_
                      case yc25 =>
                        intro w hSw
                        try dsimp only at hSw
                        go_simp
                        try (with_reducible rfl)
                      try simp only [Act.put, List.setIfInBounds_toArray, List.set_cons_zero, List.set_cons_succ]
                      refine wpAnyH_ready (rs := [26]) (by kernel_rfl) (by simp) ?_
                      refine (AllReadyH.cons (o := { dst := some 118, op := Op.call { callee := Callee.value (Operand.func 12), args := #[Operand.tmp 117], argTypes := #[28] }, type := 4, pos := "law.go:206", after := #[{ on := 25, ground := Ground.data }, { on := 24, ground := Ground.chain }, { on := 24, ground := Ground.guard }], guard := some (24, true) }) rfl (fun K hK => ?_) AllReadyH.nil)
                      · skip
                        go_simp
                        (with_reducible refine (F1.out _ (by first | exact bc | exact bdr bc)).mono ?_)
                        rintro e wb ⟨rfl, bc⟩
                        try (go_wp2_with fail)
                        refine hK.out _ _ ?_ (fun hHeld => ?_)
                        · first | exact DC.out _ bc | exact DC.out _ (bdr bc)
                        clear hK K
                        try simp only [Act.put, List.setIfInBounds_toArray, List.set_cons_zero, List.set_cons_succ]
                        refine takeOn 27 { dst := some 119, op := Op.unOp UnOp.not 4 (Operand.tmp 118), type := 4, pos := "law.go:206", after := #[{ on := 26, ground := Ground.data }, { on := 24, ground := Ground.guard }], guard := some (24, true) } (v := ?c26) rfl (by kernel_rfl) (by kernel_rfl) (by kernel_rfl) (fun _ _ _ h => h) (by rfl) (by assumption) ?yc26 ?_
                        case yc26 =>
                          intro w hSw
                          try dsimp only at hSw
                          go_simp
                          try (with_reducible rfl)
                        try simp only [Act.put, List.setIfInBounds_toArray, List.set_cons_zero, List.set_cons_succ]
                        refine takeOn 28 { dst := some 120, op := Op.move (Operand.tmp 119), type := 4, pos := "law.go:206", after := #[{ on := 27, ground := Ground.data }, { on := 26, ground := Ground.chain }, { on := 24, ground := Ground.guard }], guard := some (24, true) } (v := ?c27) rfl (by kernel_rfl) (by kernel_rfl) (by kernel_rfl) (fun _ _ _ h => h) (by rfl) (by assumption) ?yc27 ?_
                        case yc27 =>
                          intro w hSw
                          try dsimp only at hSw
                          go_simp
                          try (with_reducible rfl)
                        try simp only [Act.put, List.setIfInBounds_toArray, List.set_cons_zero, List.set_cons_succ]
                        refine takeOn 29 { dst := some 121, op := Op.load 28 (Operand.tmp 15), type := 28, pos := "law.go:206", after := #[{ on := 28, ground := Ground.guard }], guard := some (28, false) } (v := ?c28) rfl (by kernel_rfl) (by kernel_rfl) (by kernel_rfl) (fun _ _ _ h => h) (by rfl) (by assumption) ?yc28 ?_
                        case yc28 =>
                          intro w hSw
                          try dsimp only at hSw
                          go_simp
                          try (with_reducible rfl)
                        try simp only [Act.put, List.setIfInBounds_toArray, List.set_cons_zero, List.set_cons_succ]
                        refine takeOn 31 { dst := some 123, op := Op.load 37 (Operand.tmp 18), type := 37, pos := "law.go:206", after := #[{ on := 28, ground := Ground.guard }], guard := some (28, false) } (v := ?c29) rfl (by kernel_rfl) (by kernel_rfl) (by kernel_rfl) (fun _ _ _ h => h) (by rfl) (by assumption) ?yc29 ?_
                        case yc29 =>
                          intro w hSw
                          try dsimp only at hSw
                          go_simp
                          try (with_reducible rfl)
                        try simp only [Act.put, List.setIfInBounds_toArray, List.set_cons_zero, List.set_cons_succ]
                        refine wpAnyH_ready (rs := [30]) (by kernel_rfl) (by simp) ?_
                        refine (AllReadyH.cons (o := { dst := some 122, op := Op.call { callee := Callee.value (Operand.func 16), args := #[Operand.tmp 121], argTypes := #[28] }, type := 37, pos := "law.go:206", after := #[{ on := 29, ground := Ground.data }, { on := 28, ground := Ground.chain }, { on := 28, ground := Ground.guard }], guard := some (28, false) }) rfl (fun K hK => ?_) AllReadyH.nil)
                        · skip
                          go_simp
                          (with_reducible refine (F2.out _ (by first | exact bc | exact bdr bc)).mono ?_)
                          rintro e wb ⟨rfl, bc⟩
                          try (go_wp2_with fail)
                          refine hK.out _ _ ?_ (fun hHeld => ?_)
                          · first | exact DC.out _ bc | exact DC.out _ (bdr bc)
                          clear hK K
                          try simp only [Act.put, List.setIfInBounds_toArray, List.set_cons_zero, List.set_cons_succ]
                          refine wpAnyH_ready (rs := [32]) (by kernel_rfl) (by simp) ?_
                          refine (AllReadyH.cons (o := { dst := some 124, op := Op.call { callee := Callee.value (Operand.func 15), args := #[Operand.tmp 122, Operand.tmp 123], argTypes := #[37, 37] }, type := 4, pos := "law.go:206", after := #[{ on := 30, ground := Ground.data }, { on := 31, ground := Ground.data }, { on := 30, ground := Ground.chain }, { on := 28, ground := Ground.guard }], guard := some (28, false) }) rfl (fun K hK => ?_) AllReadyH.nil)
                          · skip
                            go_simp
                            (with_reducible refine (F3.out _ (by first | exact bc | exact bdr bc)).mono ?_)
                            rintro e wb ⟨rfl, bc⟩
                            try (go_wp2_with fail)
                            refine hK.out _ _ ?_ (fun hHeld => ?_)
                            · first | exact DC.out _ bc | exact DC.out _ (bdr bc)
                            clear hK K
                            try simp only [Act.put, List.setIfInBounds_toArray, List.set_cons_zero, List.set_cons_succ]
                            refine takeOn 33 { dst := some 125, op := Op.unOp UnOp.not 4 (Operand.tmp 124), type := 4, pos := "law.go:206", after := #[{ on := 32, ground := Ground.data }, { on := 28, ground := Ground.guard }], guard := some (28, false) } (v := ?c30) rfl (by kernel_rfl) (by kernel_rfl) (by kernel_rfl) (fun _ _ _ h => h) (by rfl) (by assumption) ?yc30 ?_
                            case yc30 =>
                              intro w hSw
                              try dsimp only at hSw
                              go_simp
                              try (with_reducible rfl)
                            try simp only [Act.put, List.setIfInBounds_toArray, List.set_cons_zero, List.set_cons_succ]
                            refine takeOn 34 { dst := some 126, op := Op.pick (Operand.tmp 120) (Operand.const (Value.bool true)) (Operand.tmp 125), type := 4, pos := "law.go:206", after := #[{ on := 28, ground := Ground.data }, { on := 33, ground := Ground.data }, { on := 24, ground := Ground.guard }], guard := some (24, true) } (v := ?c31) rfl (by kernel_rfl) (by kernel_rfl) (by kernel_rfl) (fun _ _ _ h => h) (by rfl) (by assumption) ?yc31 ?_
                            case yc31 =>
                              intro w hSw
                              try dsimp only at hSw
                              go_simp
                              try (with_reducible rfl)
                            try simp only [Act.put, List.setIfInBounds_toArray, List.set_cons_zero, List.set_cons_succ]
                            refine takeOn 35 { dst := some 127, op := Op.pick (Operand.tmp 116) (Operand.tmp 126) (Operand.const (Value.bool false)), type := 4, pos := "law.go:206", after := #[{ on := 24, ground := Ground.data }, { on := 34, ground := Ground.data }, { on := 22, ground := Ground.guard }], guard := some (22, false) } (v := ?c32) rfl (by kernel_rfl) (by kernel_rfl) (by kernel_rfl) (fun _ _ _ h => h) (by rfl) (by assumption) ?yc32 ?_
                            case yc32 =>
                              intro w hSw
                              try dsimp only at hSw
                              go_simp
                              try (with_reducible rfl)
                            try simp only [Act.put, List.setIfInBounds_toArray, List.set_cons_zero, List.set_cons_succ]
                            refine takeOn 36 { dst := some 128, op := Op.pick (Operand.tmp 114) (Operand.const (Value.bool true)) (Operand.tmp 127), type := 4, pos := "law.go:206", after := #[{ on := 22, ground := Ground.data }, { on := 35, ground := Ground.data }], guard := none } (v := ?c33) rfl (by kernel_rfl) (by kernel_rfl) (by kernel_rfl) (fun _ _ _ h => h) (by rfl) (by assumption) ?yc33 ?_
                            case yc33 =>
                              intro w hSw
                              try dsimp only at hSw
                              go_simp
                              try (with_reducible rfl)
                            try simp only [Act.put, List.setIfInBounds_toArray, List.set_cons_zero, List.set_cons_succ]
                            refine wpAnyH_done (by kernel_rfl) ?_ _
                            go_wp2
                            go_meet
                            exact ⟨rfl, Lib.hid bc⟩
                    case rest =>
                      obtain ⟨rfl, HB13⟩ := hcut
                      have HZ13 := Lib.hid (HZ12.out.trans (HB13.out.mono HZ12.out.size))
                      clear HZ12 HB13 K12 O12 KN12 SN12
                      go_wp2
                      go_roundw
                      case rel => exact ⟨k + 1, by omega, by go_num, HZ13⟩
                      case measure => simp [intOf]; omega
                  · rw [HS.out] at hn; cases hn
        · go_wp2
          go_meet
          exact HZ
    case rest =>
      have HZ := hcut
      obtain ⟨Wc, rfl⟩ : ∃ x : World, x = wc := ⟨_, rfl⟩
      have O9 := Lib.hid (O8.out.later HZ.out)
      have K9 := Lib.hid (K8.out.later HZ.out)
      have K09 := Lib.hid (K08.out.later HZ.out)
      have HX9 := Lib.hid (HX8.out.later HZ.out)
      have BW := Lib.hid (B8.out.trans (HZ.out.mono B8.out.size))
      have SB9 := Lib.hid (SB.out.later HZ.out)
      have AB9 := Lib.hid (AB.out.later BW.out)
      clear O8 K8 K08 HX8 B8 SB AB HZ AY LY BY AP LP
      go_upto_region 24 with fail
      have bc : Below Wc.heap.size Wc Wc := Below.refl _ _
      have DC := Lib.hid (fun w' (hb : Below Wc.heap.size Wc w') => And.intro (dcells_at K9.out hb) (dcells_at K09.out hb))
      have f1 := fun w' (hb : Below Wc.heap.size Wc w') => (own6_any a b T S w' (HX9.out.later hb)).mono (R' := fun e wb => ∃ C D, e = .returned (.agg (dcs C D)) ∧ Below Wc.heap.size Wc wb ∧ DOw 9 3 w'.heap.size wb C D T1 S1) fun e wb ⟨C, D, h1, h2, h3⟩ => ⟨C, D, h1, hb.trans (h3.mono hb.size), by rw [DT.out, DS.out]; exact h2⟩
      have f2 := fun Bd w' (hb : Below Wc.heap.size Wc w') C D (hO : DOw 9 3 Bd w' C D T1 S1) => (same6_any A B C D T1 T1 S1 S1 w' (O9.out.later hb).sl hO.sl true (by simp)).mono (R' := fun e wb => e = .returned (.bool true) ∧ Below Wc.heap.size Wc wb) fun e wb ⟨h1, h2⟩ => ⟨h1, hb.trans (h2.mono hb.size)⟩
      have f3 := fun w' (hb : Below Wc.heap.size Wc w') => (equalb_arg oY _ cY bs w' (SB9.out.later hb) (AB9.out.later hb)).mono (R' := fun e wb => e = .returned (.bool true) ∧ Below Wc.heap.size Wc wb) fun e wb ⟨h1, h2⟩ => ⟨h1, hb.trans (h2.mono hb.size)⟩
      rw [LB.out] at f3
      simp only [dcs] at f1 f2
      have F1 := Lib.hid f1
      have F2 := Lib.hid f2
      have F3 := Lib.hid f3
      clear f1 f2 f3 O9 K9 K09 HX9 SB9 AB9 LB BB LIM DT DS
      refine wp_region_held_drew (S := (fun w' => (w'.cell? ⟨w2.heap.size, 0, none⟩ = some (A 0) ∧ w'.cell? ⟨w2.heap.size, 1, none⟩ = some (B 0) ∧ w'.cell? ⟨w2.heap.size, 2, none⟩ = some (A 1) ∧ w'.cell? ⟨w2.heap.size, 3, none⟩ = some (B 1) ∧ w'.cell? ⟨w2.heap.size, 4, none⟩ = some (A 2) ∧ w'.cell? ⟨w2.heap.size, 5, none⟩ = some (B 2) ∧ w'.cell? ⟨w2.heap.size, 6, none⟩ = some (A 3) ∧ w'.cell? ⟨w2.heap.size, 7, none⟩ = some (B 3) ∧ w'.cell? ⟨w2.heap.size, 8, none⟩ = some (A 4) ∧ w'.cell? ⟨w2.heap.size, 9, none⟩ = some (B 4)) ∧ w'.cell? ⟨w.heap.size, 0, none⟩ = some (a 0) ∧ w'.cell? ⟨w.heap.size, 1, none⟩ = some (b 0) ∧ w'.cell? ⟨w.heap.size, 2, none⟩ = some (a 1) ∧ w'.cell? ⟨w.heap.size, 3, none⟩ = some (b 1) ∧ w'.cell? ⟨w.heap.size, 4, none⟩ = some (a 2) ∧ w'.cell? ⟨w.heap.size, 5, none⟩ = some (b 2) ∧ w'.cell? ⟨w.heap.size, 6, none⟩ = some (a 3) ∧ w'.cell? ⟨w.heap.size, 7, none⟩ = some (b 3) ∧ w'.cell? ⟨w.heap.size, 8, none⟩ = some (a 4) ∧ w'.cell? ⟨w.heap.size, 9, none⟩ = some (b 4))) (by kernel_rfl) ?_ (fun hHeld => ?_)
      · first | exact DC.out _ bc | exact DC.out _ (bdr bc)
      refine takeOn 0 { dst := some 130, op := Op.load 28 (Operand.tmp 7), type := 28, pos := "law.go:210", after := #[], guard := none } (v := ?z0) rfl (by kernel_rfl) (by kernel_rfl) (by kernel_rfl) (fun _ _ _ h => h) (by rfl) (by assumption) ?yz0 ?_
      case yz0 =>
        intro w hSw
        try dsimp only at hSw
        go_simp
        try (with_reducible rfl)
      try simp only [Act.put, List.setIfInBounds_toArray, List.set_cons_zero, List.set_cons_succ]
      refine takeOn 1 { dst := some 131, op := Op.load 28 (Operand.tmp 3), type := 28, pos := "law.go:210", after := #[], guard := none } (v := ?z1) rfl (by kernel_rfl) (by kernel_rfl) (by kernel_rfl) (fun _ _ _ h => h) (by rfl) (by assumption) ?yz1 ?_
      case yz1 =>
        intro w hSw
        try dsimp only at hSw
        go_simp
        try (with_reducible rfl)
      try simp only [Act.put, List.setIfInBounds_toArray, List.set_cons_zero, List.set_cons_succ]
      refine wpAnyH_ready (rs := [2]) (by kernel_rfl) (by simp) ?_
      refine (AllReadyH.cons (o := { dst := some 132, op := Op.call { callee := Callee.value (Operand.func 11), args := #[Operand.tmp 131], argTypes := #[28] }, type := 28, pos := "law.go:210", after := #[{ on := 1, ground := Ground.data }], guard := none }) rfl (fun K hK => ?_) AllReadyH.nil)
      · skip
        go_simp
        (with_reducible refine (F1.out _ (by first | exact bc | exact bdr bc)).mono ?_)
        rintro e wb ⟨C, D, rfl, bc, hO⟩
        try (go_wp2_with fail)
        refine hK.out _ _ ?_ (fun hHeld => ?_)
        · first | exact DC.out _ bc | exact DC.out _ (bdr bc)
        clear hK K
        try simp only [Act.put, List.setIfInBounds_toArray, List.set_cons_zero, List.set_cons_succ]
        refine wpAnyH_ready (rs := [3]) (by kernel_rfl) (by simp) ?_
        refine (AllReadyH.cons (o := { dst := some 133, op := Op.call { callee := Callee.value (Operand.func 20), args := #[Operand.tmp 130, Operand.tmp 132], argTypes := #[28, 28] }, type := 4, pos := "law.go:210", after := #[{ on := 0, ground := Ground.data }, { on := 2, ground := Ground.data }, { on := 2, ground := Ground.chain }], guard := none }) rfl (fun K hK => ?_) AllReadyH.nil)
        · skip
          go_simp
          (with_reducible refine (F2.out _ _ bc C D hO).mono ?_)
          rintro e wb ⟨rfl, bc⟩
          try (go_wp2_with fail)
          refine hK.out _ _ ?_ (fun hHeld => ?_)
          · first | exact DC.out _ bc | exact DC.out _ (bdr bc)
          clear hK K
          try simp only [Act.put, List.setIfInBounds_toArray, List.set_cons_zero, List.set_cons_succ]
          refine takeOn 4 { dst := some 134, op := Op.move (Operand.tmp 133), type := 4, pos := "law.go:210", after := #[{ on := 3, ground := Ground.data }, { on := 3, ground := Ground.chain }], guard := none } (v := ?z2) rfl (by kernel_rfl) (by kernel_rfl) (by kernel_rfl) (fun _ _ _ h => h) (by rfl) (by assumption) ?yz2 ?_
          case yz2 =>
            intro w hSw
            try dsimp only at hSw
            go_simp
            try (with_reducible rfl)
          try simp only [Act.put, List.setIfInBounds_toArray, List.set_cons_zero, List.set_cons_succ]
          refine takeOn 5 { dst := some 135, op := Op.move (Operand.tmp 12), type := 59, pos := "law.go:210", after := #[{ on := 4, ground := Ground.guard }], guard := some (4, true) } (v := ?z3) rfl (by kernel_rfl) (by kernel_rfl) (by kernel_rfl) (fun _ _ _ h => h) (by rfl) (by assumption) ?yz3 ?_
          case yz3 =>
            intro w hSw
            try dsimp only at hSw
            go_simp
            try (with_reducible rfl)
          try simp only [Act.put, List.setIfInBounds_toArray, List.set_cons_zero, List.set_cons_succ]
          refine takeOn 6 { dst := some 136, op := Op.move (Operand.tmp 1), type := 59, pos := "law.go:210", after := #[{ on := 4, ground := Ground.guard }], guard := some (4, true) } (v := ?z4) rfl (by kernel_rfl) (by kernel_rfl) (by kernel_rfl) (fun _ _ _ h => h) (by rfl) (by assumption) ?yz4 ?_
          case yz4 =>
            intro w hSw
            try dsimp only at hSw
            go_simp
            try (with_reducible rfl)
          try simp only [Act.put, List.setIfInBounds_toArray, List.set_cons_zero, List.set_cons_succ]
          refine takeOn 7 { dst := some 137, op := Op.move (Operand.tmp 12), type := 59, pos := "law.go:210", after := #[{ on := 4, ground := Ground.guard }], guard := some (4, true) } (v := ?z5) rfl (by kernel_rfl) (by kernel_rfl) (by kernel_rfl) (fun _ _ _ h => h) (by rfl) (by assumption) ?yz5 ?_
          case yz5 =>
            intro w hSw
            try dsimp only at hSw
            go_simp
            try (with_reducible rfl)
          try simp only [Act.put, List.setIfInBounds_toArray, List.set_cons_zero, List.set_cons_succ]
          refine takeOn 8 { dst := some 138, op := Op.call { callee := Callee.builtin Builtin.len, args := #[Operand.tmp 137], argTypes := #[59] }, type := 3, pos := "law.go:210", after := #[{ on := 7, ground := Ground.data }, { on := 4, ground := Ground.guard }], guard := some (4, true) } (v := ?z6) rfl (by kernel_rfl) (by kernel_rfl) (by kernel_rfl) (fun _ _ _ h => h) (by rfl) (by assumption) ?yz6 ?_
          case yz6 =>
            intro w hSw
            try dsimp only at hSw
            go_simp
            try (with_reducible rfl)
          try simp only [Act.put, List.setIfInBounds_toArray, List.set_cons_zero, List.set_cons_succ]
          refine takeOn 9 { dst := some 139, op := Op.slice 59 (Operand.tmp 136) none (some (Operand.tmp 138)) none, type := 59, pos := "law.go:210", after := #[{ on := 6, ground := Ground.data }, { on := 8, ground := Ground.data }, { on := 4, ground := Ground.guard }], guard := some (4, true) } (v := ?z7) rfl (by kernel_rfl) (by kernel_rfl) (by kernel_rfl) (fun _ _ _ h => h) (by rfl) (by assumption) ?yz7 ?_
          case yz7 =>
            intro w hSw
            try dsimp only at hSw
            go_simp
            try (with_reducible rfl)
          try simp only [Act.put, List.setIfInBounds_toArray, List.set_cons_zero, List.set_cons_succ]
          refine wpAnyH_ready (rs := [10]) (by kernel_rfl) (by simp) ?_
          refine (AllReadyH.cons (o := { dst := some 140, op := Op.call { callee := Callee.value (Operand.func 32), args := #[Operand.tmp 135, Operand.tmp 139], argTypes := #[59, 59] }, type := 4, pos := "law.go:210", after := #[{ on := 5, ground := Ground.data }, { on := 9, ground := Ground.data }, { on := 4, ground := Ground.chain }, { on := 4, ground := Ground.guard }], guard := some (4, true) }) rfl (fun K hK => ?_) AllReadyH.nil)
          · skip
            go_simp
            (with_reducible refine (F3.out _ (by first | exact bc | exact bdr bc)).mono ?_)
            rintro e wb ⟨rfl, bc⟩
            try (go_wp2_with fail)
            refine hK.out _ _ ?_ (fun hHeld => ?_)
            · first | exact DC.out _ bc | exact DC.out _ (bdr bc)
            clear hK K
            try simp only [Act.put, List.setIfInBounds_toArray, List.set_cons_zero, List.set_cons_succ]
            refine takeOn 11 { dst := some 141, op := Op.pick (Operand.tmp 134) (Operand.tmp 140) (Operand.const (Value.bool false)), type := 4, pos := "law.go:210", after := #[{ on := 4, ground := Ground.data }, { on := 10, ground := Ground.data }], guard := none } (v := ?z8) rfl (by kernel_rfl) (by kernel_rfl) (by kernel_rfl) (fun _ _ _ h => h) (by rfl) (by assumption) ?yz8 ?_
            case yz8 =>
              intro w hSw
              try dsimp only at hSw
              go_simp
              try (with_reducible rfl)
            try simp only [Act.put, List.setIfInBounds_toArray, List.set_cons_zero, List.set_cons_succ]
            refine takeOn 12 { dst := some 6, op := Op.assign (Operand.tmp 141), type := 4, pos := "law.go:210", after := #[{ on := 11, ground := Ground.data }, { on := 10, ground := Ground.chain }, { on := 0, ground := Ground.phase }, { on := 1, ground := Ground.phase }, { on := 2, ground := Ground.phase }, { on := 3, ground := Ground.phase }, { on := 4, ground := Ground.phase }, { on := 5, ground := Ground.phase }, { on := 6, ground := Ground.phase }, { on := 7, ground := Ground.phase }, { on := 8, ground := Ground.phase }, { on := 9, ground := Ground.phase }, { on := 10, ground := Ground.phase }, { on := 11, ground := Ground.phase }], guard := none } (v := ?z9) rfl (by kernel_rfl) (by kernel_rfl) (by kernel_rfl) (fun _ _ _ h => h) (by rfl) (by assumption) ?yz9 ?_
            case yz9 =>
              intro w hSw
              try dsimp only at hSw
              go_simp
              try (with_reducible rfl)
            try simp only [Act.put, List.setIfInBounds_toArray, List.set_cons_zero, List.set_cons_succ]
            refine wpAnyH_done (by kernel_rfl) ?_ _
            go_wp2
            go_ret
            exact ⟨rfl, BW.out.trans (bc.mono BW.out.size)⟩
end Go.Proofs.Ytmghbejbdkoehaa

