/- wakes: does the layer do anything? -/
import Derived.Test.YtmghbejbdkoehaaK16
import Derived.Test.YtmghbejbdkoehaaMi
namespace Go.Proofs.Ytmghbejbdkoehaa
open Go.RowKit Go.Proofs.Kit Go.Shelf

def kAnn : ByteArray := ⟨#[97, 110, 110]⟩
def kBob : ByteArray := ⟨#[98, 111, 98]⟩
def kAnN : ByteArray := ⟨#[65, 110, 110]⟩
def kAll : ByteArray := ⟨#[2, 3, 97, 110, 110, 3, 98, 111, 98, 0, 0, 0, 0]⟩
theorem kAnn_may : mayB 0 kAnn = true := by decide
theorem kBob_may : mayB 0 kBob = true := by decide
theorem kAnN_may : mayB 0 kAnN = false := by decide
theorem kBob_not : kBob ∉ [kAnn] := by
  intro h
  have := List.mem_singleton.1 h
  exact absurd this (by decide)
theorem wake_bytes {T : Nat → List ByteArray} (h0 : T 0 = [kAnn, kBob]) (h : ∀ k, k < 5 → k ≠ 0 → T k = []) : bytesD T 5 = [2, 3, 97, 110, 110, 3, 98, 111, 98, 0, 0, 0, 0] := by
  have e : bytesD T 5 = bytesL (T 0) ++ bytesL (T 1) ++ bytesL (T 2) ++ bytesL (T 3) ++ bytesL (T 4) := by simp [bytesD, List.range_succ]
  have z : bytesL [] = [0] := by unfold bytesL; rw [sept_last (by simp)]; rfl
  have o : bytesL [kAnn, kBob] = [2, 3, 97, 110, 110, 3, 98, 111, 98] := by
    unfold bytesL bytesText
    simp only [List.flatMap_cons, List.flatMap_nil, strB_len]
    rw [sept_last (n := [kAnn, kBob].length) (by decide), sept_last (n := kAnn.size) (by decide), sept_last (n := kBob.size) (by decide)]
    rfl
  rw [e, h0, h 1 (by decide) (by decide), h 2 (by decide) (by decide), h 3 (by decide) (by decide), h 4 (by decide) (by decide), z, o]
  rfl
theorem wake_text : ofB [2, 3, 97, 110, 110, 3, 98, 111, 98, 0, 0, 0, 0] = kAll := by decide
/-- What lies behind a store of a dictionary over another. -/
theorem dow_over {ts ti : TypeId} {B : Nat} {w : World} {a b a' b' : Nat → Value} {T : Nat → List ByteArray} {S : Nat → List Int} {g : Nat} {t : TypeId} (h : DOw ts ti B w a' b' T S) (k : Blk w g (dcs a b) t) (h1 : ts ≠ t) (h2 : ti ≠ t) :
    Blk (dsets w g a' b') g (dcs a' b') t ∧ DOw ts ti B (dsets w g a' b') a' b' T S := ⟨dsets_blk k _ _, h.dsets k h1 h2 _ _⟩
set_option maxRecDepth 100000 in
set_option maxHeartbeats 4000000 in
theorem wakes6_any (w : World) : Calls Try.prog 10 #[] w fun e w' => e = .returned (.bool true) ∧ Below w.heap.size w w' := by
  go_enter Try.func10, Try.ntmps10
  go_wp2_with fail
  refine (dnew_any w).mono ?_
  rintro e w1 ⟨a0, b0, rfl, o0, hb0⟩
  have lim0 : DLim (fun _ => []) newS := ⟨fun k => by simp, fun k => by unfold newS; split <;> simp, fun k => by simp⟩
  have good0 : DGood hsh (fun _ => []) newS := dgood_iff.2 fun k hk => ⟨by unfold newS; rw [if_pos hk]; exact good_new, by simp, by simp⟩
  simp only [dcs]
  go_wp2_with fail
  refine (dput_any a0 b0 _ _ w1 o0.sl lim0 0 kAnn (by decide) ).mono ?_
  rintro e w2 hP
  cases hP with
  | bad _ h _ => exact (h good0).elim
  | arg _ _ hm _ => rw [kAnn_may] at hm; cases hm
  | full n _ _ _ _ _ _ hl _ => simp at hl
  | ok n _ A1 B1 T1 S1 _ hk p1 _ =>
    obtain rfl : n = 0 := by omega
    clear hk
    have t1 : T1 0 = [kAnn] := by rw [p1.tn]; rfl
    have t1' : ∀ k, k < 5 → k ≠ 0 → T1 k = [] := fun k h1 h2 => p1.oth k h1 h2
    have hid : ((putI (([] : List ByteArray)) kAnn : Nat) : Int) = 0 := rfl
    have hb2 := hb0.trans (p1.low.mono hb0.size)
    obtain ⟨X1, hX1⟩ : ∃ X1, X1 = w2.alloc (.cells (dcs A1 B1) 28) := ⟨_, rfl⟩
    have k1 : Blk X1 w2.heap.size (dcs A1 B1) 28 := by rw [hX1]; exact Blk.new _ _ _
    have g1 : Below w2.heap.size w2 X1 := by rw [hX1]; exact (Gr.alloc _ _).below
    have eX1 : w2.alloc (.cells #[A1 0, B1 0, A1 1, B1 1, A1 2, B1 2, A1 3, B1 3, A1 4, B1 4] 28) = X1 := hX1.symm
    have o1 := (p1.ow.later g1)
    obtain ⟨sa1, sb1⟩ := p1.ow.slA
    have hsa := fun k w p m => st_slice (P := Try.prog) sa1 k w p m
    have hsb := fun k w p m => st_slice (P := Try.prog) sb1 k w p m
    obtain ⟨c0, c1, c2, c3, c4, c5, c6, c7, c8, c9⟩ := dcells k1
    have hb3 := hb2.trans (g1.mono hb2.size)
    have GG := Lib.hid p1.good
    have LL := Lib.hid p1.lim
    have O1 := Lib.hid o1
    have K1 := Lib.hid k1
    have hs2 := hb2.size
    have HB3 := Lib.hid hb3
    have T0 := Lib.hid t1
    have TT := Lib.hid t1'
    clear hX1 sa1 sb1 p1 o1 k1 g1 hb3 t1 t1' hb2 o0 lim0 good0 hb0
    simp only [dcs, hid]
    clear hid
    go_wp2_with fail
    clear hsa hsb eX1 c0 c1 c2 c3 c4 c5 c6 c7 c8 c9
    refine (dput_any A1 B1 T1 S1 X1 O1.out.sl LL.out 0 kBob (by decide)).mono ?_
    rintro e w3 hP
    cases hP with
    | bad _ h _ => exact (h GG.out).elim
    | arg _ _ hm _ => rw [kBob_may] at hm; cases hm
    | full n _ _ _ hk _ _ hl _ =>
      obtain rfl : n = 0 := by omega
      rw [T0.out] at hl
      simp at hl
    | ok n _ A2 B2 T2 S2 _ hk p2 _ =>
      obtain rfl : n = 0 := by omega
      clear hk
      have t2 : T2 0 = [kAnn, kBob] := by rw [p2.tn, T0.out]; unfold putT; rw [if_neg kBob_not]; rfl
      have hid2 : putI (T1 0) kBob = 1 := by rw [T0.out]; unfold putI; rw [if_neg kBob_not]; rfl
      have t2' : ∀ k, k < 5 → k ≠ 0 → T2 k = [] := fun k h1 h2 => (p2.oth k h1 h2).trans (TT.out k h1 h2)
      have k2 := K1.out.later p2.low
      obtain ⟨sa2, sb2⟩ := p2.ow.slA
      have hsa := fun k w p m => st_slice (P := Try.prog) sa2 k w p m
      have hsb := fun k w p m => st_slice (P := Try.prog) sb2 k w p m
      obtain ⟨c0, c1, c2, c3, c4, c5, c6, c7, c8, c9⟩ := dcells k2
      have z2 := k2.frozen
      have l2 := k2.lt
      obtain ⟨X2, hX2⟩ : ∃ X2, X2 = dsets w3 w2.heap.size A2 B2 := ⟨_, rfl⟩
      obtain ⟨kx, ox⟩ := dow_over p2.ow k2 (by decide) (by decide)
      rw [← hX2] at kx ox
      have eX2 := hX2.symm
      unfold dsets at eX2
      obtain ⟨y0, y1, y2, y3, y4, y5, y6, y7, y8, y9⟩ := dcells kx
      have b3 := HB3.out.trans (p2.low.mono HB3.out.size)
      have b4 : Below w.heap.size w X2 := by rw [hX2]; exact dsets_below b3 hs2 _ _
      have GG2 := Lib.hid p2.good
      have LL2 := Lib.hid p2.lim
      have O2 := Lib.hid ox
      have K2 := Lib.hid kx
      have B4 := Lib.hid b4
      have T20 := Lib.hid t2
      have T2T := Lib.hid t2'
      have hid3 : ((putI (T1 0) kBob : Nat) : Int) = 1 := by rw [hid2]; rfl
      clear hX2 sa2 sb2 p2 ox kx k2 b3 b4 t2 t2' hid2 GG LL O1 K1 HB3 T0 TT
      simp only [dcs, hid3]
      clear hid3
      go_wp2_with fail
      clear hsa hsb eX2 c0 c1 c2 c3 c4 c5 c6 c7 c8 c9 z2 l2 y0 y1 y2 y3 y4 y5 y6 y7 y8 y9
      refine (dput_any A2 B2 T2 S2 X2 O2.out.sl LL2.out 0 kAnN (by decide)).mono ?_
      rintro e w4 hP
      cases hP with
      | bad _ h _ => exact (h GG2.out).elim
      | full n _ _ _ hk hm _ _ _ => rw [kAnN_may] at hm; cases hm
      | ok n _ _ _ _ _ _ hk p _ =>
        have hm := p.may
        rw [← hk, kAnN_may] at hm
        cases hm
      | arg _ _ _ hb4 =>
        have g4 : Below w4.heap.size w4 (w4.alloc (.cells #[.slice none 0 0, .slice none 0 0, .slice none 0 0, .slice none 0 0, .slice none 0 0, .slice none 0 0, .slice none 0 0, .slice none 0 0, .slice none 0 0, .slice none 0 0] 28)) := (Gr.alloc _ _).below
        have k4 := (K2.out.later hb4).later g4
        have o4 := (O2.out.later hb4).later g4
        have b5 := (B4.out.trans (hb4.mono B4.out.size)).trans (g4.mono (B4.out.trans (hb4.mono B4.out.size)).size)
        obtain ⟨c0, c1, c2, c3, c4, c5, c6, c7, c8, c9⟩ := dcells k4
        have K4 := Lib.hid k4
        have O4 := Lib.hid o4
        have B5 := Lib.hid b5
        clear k4 o4 b5 g4 hb4 K2 O2 B4
        simp only [dcs, nilV]
        go_wp2_with fail
        obtain ⟨X4, hX4⟩ : ∃ X4, X4 = w4.alloc (.cells #[.slice none 0 0, .slice none 0 0, .slice none 0 0, .slice none 0 0, .slice none 0 0, .slice none 0 0, .slice none 0 0, .slice none 0 0, .slice none 0 0, .slice none 0 0] 28) := ⟨_, rfl⟩
        rw [← hX4] at K4 O4 B5 ⊢
        clear hX4 c0 c1 c2 c3 c4 c5 c6 c7 c8 c9
        refine (dbytes_ok A2 B2 T2 S2 X4 O4.out.sl LL2.out GG2.out).mono ?_
        rintro e w5 ⟨v, rfl, ho5, hb5⟩
        obtain ⟨bs, hbs⟩ : ∃ bs, bs = bytesD T2 5 := ⟨_, rfl⟩
        rw [← hbs] at ho5
        have hwb := wake_bytes T20.out T2T.out
        have hbl : bs.length = 13 := by rw [hbs, hwb]; rfl
        have hby : Byt bs := by rw [hbs]; exact bytesD_byt _ _
        have hrd := rdDict_at GG2.out (bs := bs) (rest := []) (p := 0) (by rw [← hbs]; simp)
        rw [← hbs, hbl] at hrd
        obtain ⟨L, hrd, hL⟩ := hrd
        obtain ⟨ov, cv, ev⟩ := ho5.shape
        rw [List.length_map, hbl] at ev
        subst ev
        have K5 := Lib.hid (K4.out.later hb5)
        have O5 := Lib.hid (O4.out.later hb5)
        have B6 := Lib.hid (B5.out.trans (hb5.mono B5.out.size))
        have V5 := Lib.hid ho5
        have HBL := Lib.hid hbl
        have HBY := Lib.hid hby
        have HRD := Lib.hid hrd
        have HL := Lib.hid hL
        have HBS := Lib.hid (hbs.trans hwb)
        clear K4 O4 B5 ho5 hbl hby hrd hL hbs hwb hb5
        go_wp2_with fail
        refine (dread_any 0 _ bs w5 V5.out.owns.seg HBY.out (by rw [HBL.out]; decide) (Nat.zero_le _)).mono ?_
        rintro e w6 hR
        cases hR with
        | no _ h _ => rw [HRD.out] at h; cases h
        | ok _ L' q S6 A6 B6' h ho6 _ _ hb6 =>
          rw [HRD.out] at h
          injection h with h
          injection h with h1 h2
          subst h1
          subst h2
          obtain ⟨sa6, sb6⟩ := ho6.slA
          have hsa := fun k w p m => st_slice (P := Try.prog) sa6 k w p m
          have hsb := fun k w p m => st_slice (P := Try.prog) sb6 k w p m
          obtain ⟨X6, hX6⟩ : ∃ X6, X6 = w6.alloc (.cells (dcs A6 B6') 28) := ⟨_, rfl⟩
          have k6 : Blk X6 w6.heap.size (dcs A6 B6') 28 := by rw [hX6]; exact Blk.new _ _ _
          have g6 : Below w6.heap.size w6 X6 := by rw [hX6]; exact (Gr.alloc _ _).below
          have eX6 : w6.alloc (.cells #[A6 0, B6' 0, A6 1, B6' 1, A6 2, B6' 2, A6 3, B6' 3, A6 4, B6' 4] 28) = X6 := hX6.symm
          have g56 : Below w5.heap.size w5 X6 := hb6.trans (g6.mono hb6.size)
          have kd := K5.out.later g56
          obtain ⟨c0, c1, c2, c3, c4, c5, c6, c7, c8, c9⟩ := dcells kd
          have KD := Lib.hid kd
          have K6 := Lib.hid k6
          have O6 := Lib.hid (O5.out.later g56)
          have O6' := Lib.hid (ho6.later g6)
          have V6 := Lib.hid (V5.out.later g56)
          have B7 := Lib.hid (B6.out.trans (g56.mono B6.out.size))
          clear hX6 k6 g6 g56 kd sa6 sb6 ho6 hb6 K5 O5 V5 B6
          simp only [dcs]
          go_wp2_with fail
          clear hsa hsb eX6 c0 c1 c2 c3 c4 c5 c6 c7 c8 c9
          refine (name_any A2 B2 T2 S2 X6 O6.out.sl LL2.out 0 1 kBob 0 (.inr (.inr ⟨GG2.out, 0, by decide, rfl, .inl ⟨⟨by rw [T20.out]; decide, by decide, by simp only [T20.out]; rfl⟩, rfl⟩⟩))).mono ?_
          rintro e w7 ⟨rfl, hb7⟩
          obtain ⟨c0, c1, c2, c3, c4, c5, c6, c7, c8, c9⟩ := dcells (KD.out.later hb7)
          obtain ⟨d0, d1, d2, d3, d4, d5, d6, d7, d8, d9⟩ := dcells (K6.out.later hb7)
          have hcv := conv_seg ((V6.out.later hb7).owns.seg)
          have hs1 : kBob.toList = [98, 111, 98] := by rw [Lib.toList_data]; rfl
          have hs3 : (ofB bs).toList = [2, 3, 97, 110, 110, 3, 98, 111, 98, 0, 0, 0, 0] := by rw [HBS.out, wake_text, Lib.toList_data]; rfl
          have O7 := Lib.hid (O6.out.later hb7)
          have O7' := Lib.hid (O6'.out.later hb7)
          have B8 := Lib.hid (B7.out.trans (hb7.mono B7.out.size))
          clear KD K6 O6 O6' V6 B7 hb7
          go_wp2_with fail
          refine (dsame_any A6 B6' A2 B2 (ofL L) T2 S6 S2 w7 O7'.out.sl O7.out.sl true (by simp only [true_iff]; exact HL.out)).mono ?_
          rintro e w8 ⟨rfl, hb8⟩
          go_wp2
          go_ret
          exact ⟨rfl, B8.out.trans (hb8.mono B8.out.size)⟩
end Go.Proofs.Ytmghbejbdkoehaa

