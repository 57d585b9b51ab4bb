/- DictKeeps: the law's walk. -/
import Derived.Test.YtmghbejbdkoehaaMl
import Derived.Test.YtmghbejbdkoehaaK24
import Derived.Test.YtmghbejbdkoehaaK29
namespace Go.Proofs.Kit
open Go.RowKit
section
variable {α : Type} [DecidableEq α]
theorem putT_again (T : List α) (s : α) : putT (putT T s) s = putT T s := by
  have h := putT_mem T s
  show (if s ∈ putT T s then putT T s else putT T s ++ [s]) = _
  rw [if_pos h]
theorem pos_putT (T : List α) (s : α) : pos (putT T s) s = putI T s := by
  unfold putT putI
  by_cases h : s ∈ T
  · rw [if_pos h, if_pos h]
  · rw [if_neg h, if_neg h]; exact pos_new h
theorem putI_again (T : List α) (s : α) : putI (putT T s) s = putI T s := by
  have h := putT_mem T s
  show (if s ∈ putT T s then pos (putT T s) s else (putT T s).length) = _
  rw [if_pos h]
  exact pos_putT T s
theorem putT_grows (T : List α) (s : α) : ∃ l, putT T s = T ++ l := by
  unfold putT
  by_cases h : s ∈ T
  · exact ⟨[], by rw [if_pos h, List.append_nil]⟩
  · exact ⟨[s], by rw [if_neg h]⟩
end
/-- What becomes of names: none goes, and of one kind alone some come. -/
def KeepR (kind : Int) (T0 T : Nat → List ByteArray) : Prop := ∀ n, n < 5 → (∃ l, T n = T0 n ++ l) ∧ ((n : Int) ≠ kind → T n = T0 n)
theorem KeepR.refl (kind : Int) (T : Nat → List ByteArray) : KeepR kind T T := fun _ _ => ⟨⟨[], by rw [List.append_nil]⟩, fun _ => rfl⟩
theorem KeepR.put {n : Nat} {T0 T T2 : Nat → List ByteArray} {s : ByteArray} (h : KeepR (n : Int) T0 T) (hn : T2 n = putT (T n) s) (ho : ∀ k, k < 5 → k ≠ n → T2 k = T k) : KeepR (n : Int) T0 T2 := fun k hk => by
  by_cases e : k = n
  · subst e
    obtain ⟨⟨l, hl⟩, _⟩ := h k hk
    obtain ⟨m, hm⟩ := putT_grows (T k) s
    exact ⟨⟨l ++ m, by rw [hn, hm, hl, List.append_assoc]⟩, fun e => (e rfl).elim⟩
  · rw [ho k hk e]; exact h k hk
theorem keeps_names {hs : ByteArray → Nat} {kind : Int} {T0 T : Nat → List ByteArray} {S0 S : Nat → List Int} {j : Nat} {l0 l1 : List ByteArray} (hk : KeepR kind T0 T) (hg : DGood hs T S ↔ DGood hs T0 S0) (hL : DLim T S) (hj : j < 5) (h0 : NamesR hs T0 S0 j l0) (h1 : NamesR hs T S j l1) :
    (∃ l, l1 = l0 ++ l) ∧ ((j : Int) ≠ kind → l1 = l0) ∧ l1.length ≤ 128 ∧ (∀ s ∈ l1, s.size ≤ 9223372036854775807) ∧ ∀ (i : Nat) (hi : i < l1.length), IdR hs T S j l1[i] (i : Int) true := by
  rcases h1 with ⟨g1, n, hn, e, rfl⟩ | ⟨g1, rfl⟩
  · obtain rfl : n = j := by omega
    rcases h0 with ⟨g0, m, hm, e', rfl⟩ | ⟨g0, _⟩
    · obtain rfl : m = n := by omega
      refine ⟨(hk m hm).1, (hk m hm).2, (dgood_iff.1 g1 m hm).2.1, hL.z m, fun i hi => .inl ⟨g1, ⟨m, hm, rfl, List.getElem_mem _, ?_⟩, rfl⟩⟩
      rw [pos_at (dgood_iff.1 g1 m hm).1.nodup]
    · exact (g0 ⟨hg.1 g1, by omega, by omega⟩).elim
  · rcases h0 with ⟨g0, _⟩ | ⟨_, rfl⟩
    · exact (g1 ⟨hg.2 g0, by omega, by omega⟩).elim
    · exact ⟨⟨[], rfl⟩, fun _ => rfl, by simp, by simp, fun i hi => absurd hi (by simp)⟩
/-- How it stands ahead of a round: the dictionary, and the one that was. -/
structure KI (tD ts ti : TypeId) (hs : ByteArray → Nat) (w : World) (p q B1 : Nat) (kind : Int) (A0 C0 : Nat → Value) (T0 : Nat → List ByteArray) (S0 : Nat → List Int) (A B : Nat → Value) (T : Nat → List ByteArray) (S : Nat → List Int) (W : World) : Prop where
  kp : Blk W p (dcs A B) tD
  kq : Blk W q (dcs A0 C0) tD
  ow : DOw ts ti B1 W A B T S
  ow0 : DOw ts ti B1 W A0 C0 T0 S0
  lim : DLim T S
  keep : KeepR kind T0 T
  gd : DGood hs T S ↔ DGood hs T0 S0
  low : Below w.heap.size w W
section
variable {tD ts ti : TypeId} {hs : ByteArray → Nat} {w : World} {p q B1 B2 : Nat} {kind : Int} {A0 C0 : Nat → Value} {T0 : Nat → List ByteArray} {S0 : Nat → List Int} {A B C D : Nat → Value} {T T2 : Nat → List ByteArray} {S S2 : Nat → List Int} {W W' : World}
theorem KI.later (h : KI tD ts ti hs w p q B1 kind A0 C0 T0 S0 A B T S W) (g : Below W.heap.size W W') : KI tD ts ti hs w p q B1 kind A0 C0 T0 S0 A B T S W' :=
  ⟨h.kp.later g, h.kq.later g, h.ow.later g, h.ow0.later g, h.lim, h.keep, h.gd, h.low.trans (g.mono h.low.size)⟩
theorem KI.next (h : KI tD ts ti hs w p q B1 kind A0 C0 T0 S0 A B T S W) (o : DOw ts ti B2 W C D T2 S2) (hl : DLim T2 S2) (hk : KeepR kind T0 T2) (hg : DGood hs T2 S2) (hg0 : DGood hs T S) (hB : B1 ≤ B2) (h1 : ts ≠ tD) (h2 : ti ≠ tD) (hw : w.heap.size ≤ p) (hq : q ≠ p) :
    KI tD ts ti hs w p q B1 kind A0 C0 T0 S0 C D T2 S2 (dsets W p C D) :=
  ⟨dsets_blk h.kp C D, dsets_other h.kq hq C D, (o.mono hB).dsets h.kp h1 h2 C D, h.ow0.dsets h.kp h1 h2 C D, hl, hk, ⟨fun _ => h.gd.1 hg0, fun _ => hg⟩, dsets_below h.low hw C D⟩
end
theorem Ow.later_drew {t : TypeId} {B : Nat} {w w' : World} {v : Value} {l : List Value} (h : Ow t B w v l) (hb : Below w.drew.heap.size w.drew w') : Ow t B w' v l :=
  h.later ((Below.refl w.heap.size w).drew.trans hb)
end Go.Proofs.Kit
namespace Go.Proofs.Ytmghbejbdkoehaa
open Go.RowKit Go.Proofs.Kit Go.Shelf

set_option maxRecDepth 100000 in
set_option maxHeartbeats 4000000 in
theorem keeps6_true (a b : Nat → Value) (T : Nat → List ByteArray) (S : Nat → List Int) (kind : Int) (oN : Option Addr) (nN cN : Nat) (nl : List ByteArray) (w : World) (hx : DArg w a b T S) (hz : ∀ k, ∀ s ∈ T k, s.size ≤ 9223372036854775807)
    (hn : nl.length = nN) (hnm : nN ≤ 9223372036854775807) (ht : ArgV w oN cN (nl.map Value.string)) (htz : ∀ s ∈ nl, s.size ≤ 9223372036854775807) :
    Calls Try.prog 8 #[.agg (dcs a b), .int .i64 kind, .slice oN nN cN] w fun e w' => e = .returned (.bool true) ∧ Below w.heap.size w w' := by
  have hmix := mixed
  have HX := Lib.hid hx
  have LIM := Lib.hid (own_lim (S := S) hz)
  have HT := Lib.hid ht
  have HTZ := Lib.hid htz
  have HN := Lib.hid hn
  clear hx hz ht htz hn
  simp only [dcs]
  obtain ⟨X0, hX0⟩ : ∃ X0, X0 = w.alloc (.cells (dcs a b) 28) := ⟨_, rfl⟩
  have e0 : w.alloc (.cells #[a 0, b 0, a 1, b 1, a 2, b 2, a 3, b 3, a 4, b 4] 28) = X0 := hX0.symm
  have k0 : Blk X0 w.heap.size (dcs a b) 28 := by rw [hX0]; exact Blk.new _ _ _
  have g0 : Below w.heap.size w X0 := by rw [hX0]; exact (Gr.alloc _ _).below
  clear hX0
  go_enter Try.func8, Try.ntmps8
  go_wp2_with fail
  refine (wakes6_any X0).mono ?_
  rintro e w1 ⟨rfl, h1⟩
  have K0 := Lib.hid (k0.later h1)
  have B1 := Lib.hid (g0.trans (h1.mono g0.size))
  have HX1 := Lib.hid (HX.out.later B1.out)
  clear e0 k0 g0 h1 HX
  obtain ⟨c0, c1, c2, c3, c4, c5, c6, c7, c8, c9⟩ := dcells K0.out
  go_wp2_with fail
  clear c0 c1 c2 c3 c4 c5 c6 c7 c8 c9
  refine (own6_any a b T S w1 HX1.out).mono ?_
  rintro e w2 ⟨A, B, rfl, hO, h2⟩
  obtain ⟨T1, hT1⟩ : ∃ T1, T1 = fst (cutT T) 5 := ⟨_, rfl⟩
  obtain ⟨S1, hS1⟩ : ∃ S1, S1 = fst (cutS6 S) 5 := ⟨_, rfl⟩
  rw [← hT1, ← hS1] at hO LIM
  obtain ⟨X2, hX2⟩ : ∃ X2, X2 = w2.alloc (.cells (dcs A B) 28) := ⟨_, rfl⟩
  have eX2 : w2.alloc (.cells #[A 0, B 0, A 1, B 1, A 2, B 2, A 3, B 3, A 4, B 4] 28) = X2 := hX2.symm
  have k2 : Blk X2 w2.heap.size (dcs A B) 28 := by rw [hX2]; exact Blk.new _ _ _
  have g2 : Below w2.heap.size w2 X2 := by rw [hX2]; exact (Gr.alloc _ _).below
  have hq2 : X2.heap.size = w2.heap.size + 1 := by rw [hX2]; simp
  obtain ⟨X3, hX3⟩ : ∃ X3, X3 = X2.alloc (.cells (dcs A B) 28) := ⟨_, rfl⟩
  have eX3 : X2.alloc (.cells #[A 0, B 0, A 1, B 1, A 2, B 2, A 3, B 3, A 4, B 4] 28) = X3 := hX3.symm
  have k3 : Blk X3 (w2.heap.size + 1) (dcs A B) 28 := by rw [hX3, ← hq2]; exact Blk.new _ _ _
  have g3 : Below X2.heap.size X2 X3 := by rw [hX3]; exact (Gr.alloc _ _).below
  obtain ⟨sa, sb⟩ := hO.slA
  have hsa := fun k w p m => st_slice (P := Try.prog) sa k w p m
  have hsb := fun k w p m => st_slice (P := Try.prog) sb k w p m
  have b2 := B1.out.trans (h2.mono B1.out.size)
  have hp : w.heap.size ≤ w2.heap.size := b2.size
  have hp1 : w1.heap.size ≤ w2.heap.size := h2.size
  have b3 := b2.trans (g2.mono b2.size)
  have b4 := b3.trans (g3.mono b3.size)
  obtain ⟨c0, c1, c2, c3, c4, c5, c6, c7, c8, c9⟩ := dcells k2
  have K3 : Hid (KI 28 9 3 hsh w w2.heap.size (w2.heap.size + 1) w1.heap.size kind A B T1 S1 A B T1 S1 X3) :=
    Lib.hid ⟨k2.later g3, k3, (hO.later g2).later g3, (hO.later g2).later g3, LIM.out, KeepR.refl _ _, Iff.rfl, b4⟩
  have HL0 := Lib.hid LIM.out
  have HP := Lib.hid hp
  have HP1 := Lib.hid hp1
  clear hX2 hT1 hS1 hO k2 g2 sa sb b2 b3 b4 h2 HX1 K0 hX3 k3 g3 LIM hp hp1
  simp only [dcs]
  go_upto_block 0 with fail
  clear hsa hsb eX2 eX3 hq2 c0 c1 c2 c3 c4 c5 c6 c7 c8 c9
  go_cut [35] (fun _ wx => ∃ (C D : Nat → Value) (T : Nat → List ByteArray) (S : Nat → List Int), Hid (KI 28 9 3 hsh w w2.heap.size (w2.heap.size + 1) w1.heap.size kind A B T1 S1 C D T S wx))
  case first =>
    go_wp2
    go_loopw [9, 10, 11, 12, 13, 14, 15, 16, 17, 18, 19, 20, 35] (fun _ _ _ _ _ _ _ _ _ _ _ _ i wr => ∃ (k : Nat) (C D : Nat → Value) (T : Nat → List ByteArray) (S : Nat → List Int), k ≤ nN ∧ i = .int .i64 (k : Int) ∧ Hid (KI 28 9 3 hsh w w2.heap.size (w2.heap.size + 1) w1.heap.size kind A B T1 S1 C D T S wr)) (fun _ _ _ _ _ _ _ _ _ _ _ _ i _ => nN - (intOf i).toNat)
    case atStart => exact ⟨0, A, B, T1, S1, Nat.zero_le _, rfl, K3⟩
    case round =>
      clear K3
      obtain ⟨k, C, D, T, S, hk, rfl, HK⟩ := hrel
      obtain ⟨wr0, rfl⟩ : ∃ x : World, x = wr := ⟨_, rfl⟩
      by_cases hkn : k < nN
      · have hkl : k < nl.length := by have := HN.out; omega
        rcases HT.out with ⟨_, h, _⟩ | ⟨ab, rfl, hcX⟩
        · have : nl = [] := by simpa using h
          rw [this] at hkl; simp at hkl
        · have d0 := (HK.out.low.cell (World.block_lt_of_cell? _ _ (hcX k (by simpa using hkl)))).trans (hcX k (by simpa using hkl))
          rw [List.getElem_map] at d0
          have hsz := HTZ.out _ (List.getElem_mem hkl)
          obtain ⟨nm, hnmm⟩ : ∃ nm, nm = nl[k] := ⟨_, rfl⟩
          rw [← hnmm] at d0 hsz
          clear hnmm hcX hkl
          by_cases h6 : k = 6
          · have h6' : ((k : Int) == 6) = true := by simp; omega
            clear h6
            go_wp2
            go_meet
            exact ⟨C, D, T, S, HK⟩
          · have h6' : ((k : Int) == 6) = false := by simp; omega
            clear h6
            obtain ⟨c0, c1, c2, c3, c4, c5, c6, c7, c8, c9⟩ := dcells HK.out.kp
            go_wp2_with fail
            clear c0 c1 c2 c3 c4 c5 c6 c7 c8 c9 d0
            refine (dput_any C D T S wr0 HK.out.ow.sl HK.out.lim kind nm hsz).mono ?_
            rintro e W4 hP
            cases hP with
            | bad _ h hb =>
              have K4 := Lib.hid (HK.out.later hb)
              have bA := fun o => Lib.hid (K4.out.later ((Below.refl W4.heap.size W4).alloc (Nat.le_refl _) o))
              clear h hb HK
              simp only [dcs, nilV]
              go_wp2
              go_roundw
              case rel => exact ⟨k + 1, C, D, T, S, by omega, by go_num, bA _⟩
              case measure => simp [intOf]; omega
            | arg _ h hm hb =>
              have K4 := Lib.hid (HK.out.later hb)
              have bA := fun o => Lib.hid (K4.out.later ((Below.refl W4.heap.size W4).alloc (Nat.le_refl _) o))
              clear h hb HK hm
              simp only [dcs, nilV]
              go_wp2
              go_roundw
              case rel => exact ⟨k + 1, C, D, T, S, by omega, by go_num, bA _⟩
              case measure => simp [intOf]; omega
            | full n _ h hn hk' hm hni hl hb =>
              have K4 := Lib.hid (HK.out.later hb)
              have bA := fun o => Lib.hid (K4.out.later ((Below.refl W4.heap.size W4).alloc (Nat.le_refl _) o))
              clear h hb HK hm hn hk' hni hl
              simp only [dcs, nilV]
              go_wp2
              go_roundw
              case rel => exact ⟨k + 1, C, D, T, S, by omega, by go_num, bA _⟩
              case measure => simp [intOf]; omega
            | ok n _ A2 B2 T2 S2 h hk' p hl =>
              subst hk'
              have PG := Lib.hid p.good
              have PL := Lib.hid p.lim
              have PM := Lib.hid p.may
              have PN := Lib.hid p.hn
              have PT := Lib.hid p.tn
              have HG := Lib.hid h
              have KP := Lib.hid (HK.out.keep.put p.tn p.oth)
              have K4 := Lib.hid (HK.out.later p.low)
              obtain ⟨id, hid⟩ : ∃ id, id = putI (T n) nm := ⟨_, rfl⟩
              rw [← hid]
              have HID := Lib.hid hid
              obtain ⟨X5, hX5⟩ : ∃ X5, X5 = W4.alloc (.cells (dcs A2 B2) 28) := ⟨_, rfl⟩
              have eX5 : W4.alloc (.cells #[A2 0, B2 0, A2 1, B2 1, A2 2, B2 2, A2 3, B2 3, A2 4, B2 4] 28) = X5 := hX5.symm
              have k5 : Blk X5 W4.heap.size (dcs A2 B2) 28 := by rw [hX5]; exact Blk.new _ _ _
              have g5 : Below W4.heap.size W4 X5 := by rw [hX5]; exact (Gr.alloc _ _).below
              obtain ⟨sa, sb⟩ := p.ow.slA
              have hsa := fun k w p m => st_slice (P := Try.prog) sa k w p m
              have hsb := fun k w p m => st_slice (P := Try.prog) sb k w p m
              have K5 := Lib.hid (K4.out.later g5)
              have O5 := Lib.hid (p.ow.later g5)
              have KN5 := Lib.hid k5
              have HB5 : Hid (w1.heap.size ≤ wr0.heap.size) := Lib.hid (by have := HP1.out; have := HK.out.kp.lt; omega)
              obtain ⟨c0, c1, c2, c3, c4, c5, c6, c7, c8, c9⟩ := dcells k5
              clear h hl p hX5 k5 g5 sa sb K4 HK hid
              simp only [dcs]
              go_wp2_with fail
              clear c0 c1 c2 c3 c4 c5 c6 c7 c8 c9 hsa hsb eX5
              have hme : nm ∈ T2 n := by rw [PT.out]; exact putT_mem _ _
              have hpos : pos (T2 n) nm = id := by rw [PT.out, pos_putT, HID.out]
              have HME := Lib.hid hme
              have HPO := Lib.hid hpos
              have hNR : NameR hsh T2 S2 (n : Int) (id : Int) nm 0 := .inr (.inr ⟨PG.out, n, PN.out, rfl, .inl ⟨⟨by simpa [← hpos] using pos_lt hme, by omega, by simp only [Int.toNat_natCast, ← hpos]; exact (pos_get hme).symm⟩, rfl⟩⟩)
              clear hme hpos
              refine (name_any A2 B2 T2 S2 X5 O5.out.sl PL.out (n : Int) (id : Int) nm 0 hNR).mono ?_
              rintro e W6 ⟨rfl, h6⟩
              have K6 := Lib.hid (K5.out.later h6)
              have O6 := Lib.hid (O5.out.later h6)
              have KN6 := Lib.hid (KN5.out.later h6)
              clear h6 K5 O5 KN5 hNR
              obtain ⟨c0, c1, c2, c3, c4, c5, c6, c7, c8, c9⟩ := dcells KN6.out
              go_wp2_with fail
              clear c0 c1 c2 c3 c4 c5 c6 c7 c8 c9
              refine (dput_any A2 B2 T2 S2 W6 O6.out.sl PL.out (n : Int) nm hsz).mono ?_
              rintro e W7 hP
              cases hP with
              | bad _ h hb => exact (h PG.out).elim
              | arg _ h hm hb => rw [PM.out] at hm; cases hm
              | full n2 _ h hn hk' hm hni hl hb =>
                obtain rfl : n = n2 := by omega
                exact (hni HME.out).elim
              | ok n2 _ A3 B3 T3 S3 h hk' p hl =>
                obtain rfl : n = n2 := by omega
                have hid3 : putI (T2 n) nm = id := by rw [PT.out, putI_again, HID.out]
                have hT3 : ∀ k, k < 5 → T3 k = T2 k := fun k hk => by
                  by_cases e : k = n
                  · subst e; rw [p.tn, PT.out, putT_again]
                  · exact p.oth k hk e
                have HT3 := Lib.hid hT3
                rw [hid3]
                have K7 := Lib.hid (K6.out.later p.low)
                have O7 := Lib.hid (O6.out.later p.low)
                have KN7 := Lib.hid (KN6.out.later p.low)
                obtain ⟨X8, hX8⟩ : ∃ X8, X8 = W7.alloc (.cells (dcs A3 B3) 28) := ⟨_, rfl⟩
                have eX8 : W7.alloc (.cells #[A3 0, B3 0, A3 1, B3 1, A3 2, B3 2, A3 3, B3 3, A3 4, B3 4] 28) = X8 := hX8.symm
                have k8 : Blk X8 W7.heap.size (dcs A3 B3) 28 := by rw [hX8]; exact Blk.new _ _ _
                have g8 : Below W7.heap.size W7 X8 := by rw [hX8]; exact (Gr.alloc _ _).below
                obtain ⟨sa, sb⟩ := p.ow.slA
                have hsa := fun k w p m => st_slice (P := Try.prog) sa k w p m
                have hsb := fun k w p m => st_slice (P := Try.prog) sb k w p m
                have K8 := Lib.hid (K7.out.later g8)
                have O8 := Lib.hid (O7.out.later g8)
                have KN8 := Lib.hid (KN7.out.later g8)
                have KM8 := Lib.hid k8
                have OM8 := Lib.hid (p.ow.later g8)
                obtain ⟨c0, c1, c2, c3, c4, c5, c6, c7, c8, c9⟩ := dcells KN8.out
                clear h hl p hX8 k8 g8 sa sb K7 O7 KN7 K6 O6 KN6 hk' hid3 hT3
                simp only [dcs]
                go_wp2_with fail
                clear c0 c1 c2 c3 c4 c5 c6 c7 c8 c9 hsa hsb eX8
                have hIR : IdR hsh T2 S2 (n : Int) nm (id : Int) true := .inl ⟨PG.out, ⟨n, PN.out, rfl, HME.out, by rw [HPO.out]⟩, rfl⟩
                refine (id_any A2 B2 T2 S2 X8 O8.out.sl PL.out (n : Int) nm hsz (id : Int) true hIR).mono ?_
                rintro e W9 ⟨rfl, h9⟩
                have K9 := Lib.hid (K8.out.later h9)
                have O9 := Lib.hid (O8.out.later h9)
                have KN9 := Lib.hid (KN8.out.later h9)
                have KM9 := Lib.hid (KM8.out.later h9)
                have OM9 := Lib.hid (OM8.out.later h9)
                clear h9 K8 O8 KN8 KM8 OM8 hIR
                obtain ⟨c0, c1, c2, c3, c4, c5, c6, c7, c8, c9⟩ := dcells KN9.out
                obtain ⟨d0, d1, d2, d3, d4, d5, d6, d7, d8, d9⟩ := dcells KM9.out
                have hss : (nm.toList == nm.toList) = true := eq_s rfl
                have hne : ((id : Int) != (id : Int)) = false := by simp
                go_wp2_with fail
                clear c0 c1 c2 c3 c4 c5 c6 c7 c8 c9 d0 d1 d2 d3 d4 d5 d6 d7 d8 d9
                refine (dsame_any A3 B3 A2 B2 T3 T2 S3 S2 W9 OM9.out.sl O9.out.sl true (by simpa using HT3.out)).mono ?_
                rintro e W10 ⟨rfl, h10⟩
                have K10 := Lib.hid (K9.out.later h10)
                have O10 := Lib.hid (O9.out.later h10)
                have KN10 := Lib.hid (KN9.out.later h10)
                clear h10 K9 O9 KN9 KM9 OM9
                go_wp2_with fail
                refine (may_any (n : Int) nm hsz W10).mono ?_
                rw [PM.out]
                rintro e W11 ⟨rfl, h11⟩
                have K11 := Lib.hid (K10.out.later h11)
                have O11 := Lib.hid (O10.out.later h11)
                have KN11 := Lib.hid (KN10.out.later h11)
                clear h11 K10 O10 KN10
                have hs := store_dict K11.out.kp O11.out.slA.1 O11.out.slA.2
                have hl := load_dict KN11.out
                have hfr := fun i => K11.out.kp.frozen i
                obtain ⟨sa, sb⟩ := O11.out.slA
                have hsa := fun k w p m => st_slice (P := Try.prog) sa k w p m
                have hsb := fun k w p m => st_slice (P := Try.prog) sb k w p m
                obtain ⟨c0, c1, c2, c3, c4, c5, c6, c7, c8, c9⟩ := dcells K11.out.kp
                obtain ⟨d0, d1, d2, d3, d4, d5, d6, d7, d8, d9⟩ := dcells KN11.out
                have PNX := Lib.hid (K11.out.next O11.out PL.out KP.out PG.out HG.out HB5.out (by decide) (by decide) HP.out (by omega))
                go_wp2_with fail
                go_roundw
                case rel => exact ⟨k + 1, A2, B2, T2, S2, by omega, by go_num, PNX⟩
                case measure => simp [intOf]; omega
      · go_wp2
        go_meet
        exact ⟨C, D, T, S, HK⟩
  case rest =>
    obtain ⟨C, D, T, S, HK⟩ := hcut
    obtain ⟨Wx, rfl⟩ : ∃ x : World, x = wc := ⟨_, rfl⟩
    clear K3 HT HTZ HN
    go_wp2_with fail
    go_loopw [21, 22, 23, 24, 25, 26, 27, 113] (fun _ _ _ _ _ _ _ i wr => ∃ j : Nat, j ≤ 5 ∧ i = .int .i64 (j : Int) ∧ Hid (Below Wx.heap.size Wx wr)) (fun _ _ _ _ _ _ _ i _ => 5 - (intOf i).toNat)
    case atStart => exact ⟨0, Nat.zero_le _, rfl, Lib.hid (Below.refl _ _)⟩
    case round =>
      obtain ⟨j, hj, rfl, HB⟩ := hrel
      obtain ⟨W8, rfl⟩ : ∃ x : World, x = wr := ⟨_, rfl⟩
      by_cases hlt : j < 5
      · have hlt' : (j : Int) < 5 := by omega
        have K8 := Lib.hid (HK.out.later HB.out)
        obtain ⟨l0, hl0⟩ := namesR_ex hsh T1 S1 j
        obtain ⟨l1, hl1⟩ := namesR_ex hsh T S j
        have HNM := Lib.hid (keeps_names HK.out.keep HK.out.gd HK.out.lim hlt hl0 hl1)
        have bc : Below W8.heap.size W8 W8 := Below.refl _ _
        have DC := Lib.hid (fun w' (hb : Below W8.heap.size W8 w') => And.intro (dcells_at K8.out.kq hb) (dcells_at K8.out.kp hb))
        have f1 := fun w' (hb : Below W8.heap.size W8 w') => (names_any A B T1 S1 w' (K8.out.ow0.later hb).sl HL0.out j l0 hl0).mono (R' := fun e wb => ∃ v', e = .returned v' ∧ Ow 9 W8.heap.size wb v' (l0.map Value.string) ∧ Below w'.heap.size w' wb ∧ Below W8.heap.size W8 wb) fun e wb ⟨v', h1, h2, h3⟩ => ⟨v', h1, h2.mono hb.size, h3, hb.trans (h3.mono hb.size)⟩
        have f2 := fun w' (hb : Below W8.heap.size W8 w') => (names_any C D T S w' (K8.out.ow.later hb).sl K8.out.lim j l1 hl1).mono (R' := fun e wb => ∃ v', e = .returned v' ∧ Ow 9 W8.heap.size wb v' (l1.map Value.string) ∧ Below w'.heap.size w' wb ∧ Below W8.heap.size W8 wb) fun e wb ⟨v', h1, h2, h3⟩ => ⟨v', h1, h2.mono hb.size, h3, hb.trans (h3.mono hb.size)⟩
        simp only [dcs] at f1 f2
        have F1 := Lib.hid f1
        have F2 := Lib.hid f2
        clear f1 f2 hl0 hl1 hlt
        go_upto_region 21 with fail
        go_cut [22, 23] from 116 to 121 (fun s22 s23 wd => Hid (Ow 9 W8.heap.size wd s22 (l0.map Value.string)) ∧ Hid (Ow 9 W8.heap.size wd s23 (l1.map Value.string)) ∧ Hid (Below W8.heap.size W8 wd))
        case first =>
          clear K8 HK HB HNM HL0
          first
            | go_region_held3 (fun w' => (w'.cell? ⟨w2.heap.size + 1, 0, none⟩ = some (A 0) ∧ w'.cell? ⟨w2.heap.size + 1, 1, none⟩ = some (B 0) ∧ w'.cell? ⟨w2.heap.size + 1, 2, none⟩ = some (A 1) ∧ w'.cell? ⟨w2.heap.size + 1, 3, none⟩ = some (B 1) ∧ w'.cell? ⟨w2.heap.size + 1, 4, none⟩ = some (A 2) ∧ w'.cell? ⟨w2.heap.size + 1, 5, none⟩ = some (B 2) ∧ w'.cell? ⟨w2.heap.size + 1, 6, none⟩ = some (A 3) ∧ w'.cell? ⟨w2.heap.size + 1, 7, none⟩ = some (B 3) ∧ w'.cell? ⟨w2.heap.size + 1, 8, none⟩ = some (A 4) ∧ w'.cell? ⟨w2.heap.size + 1, 9, none⟩ = some (B 4)) ∧ w'.cell? ⟨w2.heap.size, 0, none⟩ = some (C 0) ∧ w'.cell? ⟨w2.heap.size, 1, none⟩ = some (D 0) ∧ w'.cell? ⟨w2.heap.size, 2, none⟩ = some (C 1) ∧ w'.cell? ⟨w2.heap.size, 3, none⟩ = some (D 1) ∧ w'.cell? ⟨w2.heap.size, 4, none⟩ = some (C 2) ∧ w'.cell? ⟨w2.heap.size, 5, none⟩ = some (D 2) ∧ w'.cell? ⟨w2.heap.size, 6, none⟩ = some (C 3) ∧ w'.cell? ⟨w2.heap.size, 7, none⟩ = some (D 3) ∧ w'.cell? ⟨w2.heap.size, 8, none⟩ = some (C 4) ∧ w'.cell? ⟨w2.heap.size, 9, none⟩ = some (D 4))
                (first | exact DC.out _ bc | exact DC.out _ (bdr bc))
                (first | (go_at_call 21; (with_reducible refine (F1.out _ (by first | exact bc | exact bdr bc)).mono ?_); rintro e wb ⟨v0, rfl, hO0, hq, bc⟩; (first | have hO1 := hO1.later hq | have hO1 := hO1.later_drew hq | skip)) | (go_at_call 21; (with_reducible refine (F2.out _ (by first | exact bc | exact bdr bc)).mono ?_); rintro e wb ⟨v1, rfl, hO1, hq, bc⟩; (first | have hO0 := hO0.later hq | have hO0 := hO0.later_drew hq | skip)))
            | fail
          all_goals
            go_wp2
            go_meet
            exact ⟨Lib.hid hO0, Lib.hid hO1, Lib.hid bc⟩
        case rest =>
          obtain ⟨HO0, HO1, HB9⟩ := hcut
          obtain ⟨W9, rfl⟩ : ∃ x : World, x = wc := ⟨_, rfl⟩
          have K9 := Lib.hid (K8.out.later HB9.out)
          have HB90 := Lib.hid (HB.out.trans (HB9.out.mono HB.out.size))
          obtain ⟨n0, hn0⟩ : ∃ n, n = l0.length := ⟨_, rfl⟩
          obtain ⟨n1, hn1⟩ : ∃ n, n = l1.length := ⟨_, rfl⟩
          obtain ⟨o0, x0, e0, hx0, hx09, _⟩ := HO0.out.sl.mshape
          obtain ⟨o1, x1, e1, hx1, hx19, _⟩ := HO1.out.sl.mshape
          rw [← hn0] at e0 hx0
          rw [← hn1] at e1 hx1
          subst e0 e1
          obtain ⟨⟨la, hla⟩, hke, h128, HZ1, hid⟩ := HNM.out
          have HID := Lib.hid hid
          have HZL := Lib.hid HZ1
          have h01 : n0 ≤ n1 := by rw [hn0, hn1, hla]; simp
          have htk : l1.take n0 = l0 := by rw [hn0, hla]; simp
          have S1' := Lib.hid (show Sl W9 (.slice o1 n0 x1) (l0.map Value.string) by
            have h := HO1.out.sl
            rw [hn1, show l1.length = (l1.map Value.string).length by simp] at h
            have h := h.upto (n := n0) (by simp; omega)
            rwa [← List.map_take, htk] at h)
          have hn128 : n1 ≤ 128 := by omega
          have hke' : (j : Int) ≠ kind → n1 = n0 := fun h => by rw [hn0, hn1, hke h]
          have HN1 := Lib.hid hn1
          have HN0 := Lib.hid hn0
          clear hla hke h128 HZ1 hid htk K8 HB HB9 hn0 hn1 HNM DC F1 F2 bc
          have g1 : decide (n1 < n0) = false := by simp; omega
          have g2 : decide ((128 : Int) < (n1 : Int)) = false := by simp; omega
          have hcc : n0 ≤ x1 := by omega
          go_upto_region 22 with fail
          go_cut [152] from 122 to 151 (fun s152 wd => s152 = .bool false ∧ Hid (Below W9.heap.size W9 wd))
          case first =>
            go_wp2_with fail
            refine (equals_sl _ _ l0 l0 _ S1'.out HO0.out.sl).mono ?_
            rw [decide_eq_true (rfl : l0 = l0)]
            rintro e W10 ⟨rfl, g12⟩
            have HB10 := Lib.hid (Gr.of_dr g12).below
            clear g12
            by_cases hjk : (j : Int) = kind
            · have q1 : ((j : Int) != kind) = false := by simp [hjk]
              clear hke' hjk
              go_wp2
              go_meet
              exact ⟨rfl, HB10⟩
            · have q1 : ((j : Int) != kind) = true := by simp [hjk]
              obtain rfl := hke' hjk
              have q2 : ((n1 : Int) != (n1 : Int)) = false := by simp
              clear hke' hjk
              go_wp2
              go_meet
              exact ⟨rfl, HB10⟩
          case rest =>
            obtain ⟨rfl, HB11⟩ := hcut
            obtain ⟨W11, rfl⟩ : ∃ x : World, x = wc := ⟨_, rfl⟩
            have K11 := Lib.hid (K9.out.later HB11.out)
            have HB12 := Lib.hid (HB90.out.trans (HB11.out.mono HB90.out.size))
            have SL11 := Lib.hid (HO1.out.sl.later HB11.out)
            clear S1' hke' K9 HB90 HB11 HO0 HO1 hcc g1 g2 hx0 hx09
            go_wp2_with fail
            go_loopw [24, 25, 26, 27, 155] (fun _ _ _ _ i wz => ∃ i' : Nat, i' ≤ n1 ∧ i = .int .i64 (i' : Int) ∧ Hid (Below W11.heap.size W11 wz)) (fun _ _ _ _ i _ => n1 - (intOf i).toNat)
            case atStart => exact ⟨0, Nat.zero_le _, rfl, Lib.hid (Below.refl _ _)⟩
            case round =>
              obtain ⟨i, hi, rfl, HZ⟩ := hrel
              by_cases hin : i < n1
              · have hil : i < l1.length := by rw [← HN1.out]; exact hin
                obtain ⟨bL, fL, rfl, _, hcL⟩ := (SL11.out.later HZ.out).at hil
                have hir := HID.out i hil
                have hsz := HZL.out _ (List.getElem_mem hil)
                obtain ⟨s, hs⟩ : ∃ s, s = l1[i] := ⟨_, rfl⟩
                rw [← hs] at hcL hir hsz
                have HIR := Lib.hid hir
                have K12 := Lib.hid (K11.out.later HZ.out)
                have hne : ((i : Int) != (i : Int)) = false := by simp
                obtain ⟨c0, c1, c2, c3, c4, c5, c6, c7, c8, c9⟩ := dcells K12.out.kp
                clear hir hs hil
                go_wp2_with fail
                clear c0 c1 c2 c3 c4 c5 c6 c7 c8 c9 hcL
                refine (id_any C D T S _ K12.out.ow.sl K12.out.lim (j : Int) s hsz (i : Int) true HIR.out).mono ?_
                rintro e W13 ⟨rfl, h13⟩
                have HZ13 := Lib.hid (HZ.out.trans (h13.mono HZ.out.size))
                clear K12 h13 HIR
                go_wp2
                go_roundw
                case rel => exact ⟨i + 1, by omega, by go_num, HZ13⟩
                case measure => simp [intOf]; omega
              · go_wp2
                go_roundw
                case rel => exact ⟨j + 1, by omega, by go_num, Lib.hid (HB12.out.trans (HZ.out.mono HB12.out.size))⟩
                case measure => simp [intOf]; omega
      · go_wp2
        go_ret
        exact ⟨rfl, HK.out.low.trans (HB.out.mono HK.out.low.size)⟩
end Go.Proofs.Ytmghbejbdkoehaa

