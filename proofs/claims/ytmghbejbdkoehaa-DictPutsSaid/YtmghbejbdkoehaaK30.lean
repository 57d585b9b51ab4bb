/- DictPuts: what becomes of a dictionary, name by name. -/
import Derived.Test.YtmghbejbdkoehaaK24
import Derived.Test.YtmghbejbdkoehaaK27
import Derived.Test.YtmghbejbdkoehaaK29
import Derived.Test.YtmghbejbdkoehaaTk
namespace Go.Proofs.Kit
open Go.RowKit
/-- How it stands ahead of a round. -/
structure PI (tD ts ti : TypeId) (w : World) (p B0 : Nat) (A B : Nat → Value) (T : Nat → List ByteArray) (S : Nat → List Int) (W : World) : Prop where
  k : Blk W p (dcs A B) tD
  ow : DOw ts ti B0 W A B T S
  lim : DLim T S
  ct : fst (cutT T) 5 = T
  cs : fst (cutS6 S) 5 = S
  low : Below w.heap.size w W
theorem PI.later {tD ts ti : TypeId} {w : World} {p B0 : Nat} {A B : Nat → Value} {T : Nat → List ByteArray} {S : Nat → List Int} {W W' : World} (h : PI tD ts ti w p B0 A B T S W) (g : Below W.heap.size W W') : PI tD ts ti w p B0 A B T S W' :=
  ⟨h.k.later g, h.ow.later g, h.lim, h.ct, h.cs, h.low.trans (g.mono h.low.size)⟩
theorem PI.butR {tD ts ti : TypeId} {w : World} {p B0 : Nat} {A B : Nat → Value} {T : Nat → List ByteArray} {S : Nat → List Int} {W W' : World} (h : PI tD ts ti w p B0 A B T S W) {g : Nat} {vs : Array Value} {t : TypeId} (hk : Blk W g vs t) (h1 : ts ≠ t) (h2 : ti ≠ t)
    (hr : ButR (fun b => b = g) W W') (hpg : ¬ p = g) (hg : w.heap.size ≤ g) : PI tD ts ti w p B0 A B T S W' :=
  ⟨hr.blk h.k hpg, h.ow.butR hk h1 h2 hr, h.lim, h.ct, h.cs, h.low.trans (hr.below (by rintro b rfl; exact hg) h.low.size)⟩
/-- Texts don't lie in a block that holds none. -/
theorem Sl.past {w w' : World} {v : Value} {l : List ByteArray} {g : Nat} {vs : Array Value} {t : TypeId} (h : Sl w v (l.map Value.string)) (hk : Blk w g vs t) (hv : ∀ (i : Nat) (s : ByteArray), vs[i]? ≠ some (.string s)) (hr : ButR (fun b => b = g) w w') : Sl w' v (l.map Value.string) := by
  refine ⟨h.1, ?_⟩
  rcases h.2 with h | ⟨b, off, cap, h1, h2, h3, h4, h5⟩
  · exact .inl h
  · refine .inr ⟨b, off, cap, h1, h2, h3, Nat.lt_of_lt_of_le h4 hr.size, fun i hi => ?_⟩
    have hne : ¬ b = g := by
      rintro rfl
      have := h5 i hi
      rw [hk.cell, List.getElem_map] at this
      exact hv _ _ this
    rw [← h5 i hi]
    simp only [World.cell?, hr.same b hne h4]
theorem nms_no (i : Nat) (s : ByteArray) : (nms fun _ => nilV)[i]? ≠ some (.string s) := by
  unfold nms
  match i with
  | 0 | 1 | 2 | 3 | 4 => simp
  | _ + 5 => simp
theorem butR_nsets (w : World) (g : Nat) (x : Nat → Value) : ButR (fun b => b = g) w (nsets w g x) := by
  unfold nsets
  have h := ButR.refl (fun b => b = g) w
  iterate 5 (refine ButR.set ?_ _ _ (fun _ => rfl))
  exact h
/-- Where rows of one's own lie. -/
theorem Ow.own_lt {t : TypeId} {B : Nat} {w : World} {v : Value} {l : List Value} (h : Ow t B w v l) (g : Nat) (hg : v.ownBlock = some g) : g < w.heap.size := by
  rcases h.2 with ⟨h1, _⟩ | ⟨b, cap, cur, rfl, _, hb, _⟩
  · rw [h1] at hg; cases hg
  · cases hg; exact Blk.lt hb
theorem Ow.own_le {t : TypeId} {B : Nat} {w : World} {v : Value} {l : List Value} (h : Ow t B w v l) (g : Nat) (hg : v.ownBlock = some g) : B ≤ g := by
  rcases h.2 with ⟨h1, _⟩ | ⟨b, cap, cur, rfl, hb, _⟩
  · rw [h1] at hg; cases hg
  · cases hg; exact hb
/-- All rows of a dictionary lie ahead of a block. -/
def DUnd (a b : Nat → Value) (X : Nat) : Prop := ∀ k g, ((a k).ownBlock = some g → g < X) ∧ ((b k).ownBlock = some g → g < X)
theorem DOw.und {ts ti : TypeId} {B : Nat} {w : World} {a b : Nat → Value} {T : Nat → List ByteArray} {S : Nat → List Int} (h : DOw ts ti B w a b T S) : DUnd a b w.heap.size := fun k g => ⟨(h k).1.own_lt g, (h k).2.own_lt g⟩
theorem DOw.spoilt {ts ti : TypeId} {B X E : Nat} {w w' : World} {a b : Nat → Value} {T : Nat → List ByteArray} {S : Nat → List Int} (h : DOw ts ti B w a b T S) (hu : DUnd a b X) (hr : ButR (btw X E) w w') : DOw ts ti B w' a b T S := fun k =>
  ⟨hr.ow (h k).1 fun g hx e => absurd e.1 (Nat.not_le.2 ((hu k g).1 hx)), hr.ow (h k).2 fun g hx e => absurd e.1 (Nat.not_le.2 ((hu k g).2 hx))⟩
theorem DOw.past {ts ti : TypeId} {B X : Nat} {w w' : World} {a b : Nat → Value} {T : Nat → List ByteArray} {S : Nat → List Int} (h : DOw ts ti B w a b T S) (hr : ButR (btw X B) w w') : DOw ts ti B w' a b T S := fun k =>
  ⟨hr.ow (h k).1 fun g hx e => absurd e.2 (Nat.not_lt.2 ((h k).1.own_le g hx)), hr.ow (h k).2 fun g hx e => absurd e.2 (Nat.not_lt.2 ((h k).2.own_le g hx))⟩
theorem DOw.wt {ts ti : TypeId} {B : Nat} {w w' : World} {a b : Nat → Value} {T : Nat → List ByteArray} {S : Nat → List Int} (h : DOw ts ti B w a b T S) (g : Below w.heap.size w w') : DWt ts ti B w.heap.size w' a b (fun k => (T k).length) (fun k => (S k).length) := fun k =>
  ⟨by have := ((h k).1.wt (h k).1.own_lt).later g; simpa using this, by have := ((h k).2.wt (h k).2.own_lt).later g; simpa using this⟩
theorem PI.spoilt {tD ts ti : TypeId} {w : World} {p B0 X E : Nat} {A B : Nat → Value} {T : Nat → List ByteArray} {S : Nat → List Int} {W W' : World} (h : PI tD ts ti w p B0 A B T S W) (hu : DUnd A B X) (hr : ButR (btw X E) W W') (hp : p < X) (hw : w.heap.size ≤ X) : PI tD ts ti w p B0 A B T S W' :=
  ⟨hr.blk h.k (fun e => absurd e.1 (Nat.not_le.2 hp)), h.ow.spoilt hu hr, h.lim, h.ct, h.cs, h.low.trans (hr.below (fun _ e => Nat.le_trans hw e.1) h.low.size)⟩
theorem PI.next {tD ts ti : TypeId} {w : World} {p B0 B1 : Nat} {A B C D : Nat → Value} {T TG : Nat → List ByteArray} {S SG : Nat → List Int} {W : World} (h : PI tD ts ti w p B0 A B T S W) (o : DOw ts ti B1 W C D (fst (cutT TG) 5) (fst (cutS6 SG) 5)) (hl : DLim (fst (cutT TG) 5) (fst (cutS6 SG) 5)) (hB : B0 ≤ B1) (h1 : ts ≠ tD) (h2 : ti ≠ tD) (hw : w.heap.size ≤ p) :
    PI tD ts ti w p B0 C D (fst (cutT TG) 5) (fst (cutS6 SG) 5) (dsets W p C D) :=
  ⟨dsets_blk h.k C D, (o.mono hB).dsets h.k h1 h2 C D, hl, cut_twice TG, cut_twiceS SG, dsets_below h.low hw C D⟩
end Go.Proofs.Kit
namespace Go.Proofs.Ytmghbejbdkoehaa
open Go.RowKit Go.Proofs.Kit Go.Shelf

set_option maxRecDepth 100000 in
set_option maxHeartbeats 4000000 in
theorem puts6_true (a b : Nat → Value) (T : Nat → List ByteArray) (S : Nat → List Int) (oX : Option Addr) (nX cX : Nat) (wl : List (Int × ByteArray)) (w : World) (hx : DArg w a b T S) (hz : ∀ k, ∀ s ∈ T k, s.size ≤ 9223372036854775807)
    (hn : wl.length = nX) (hnm : nX ≤ 9223372036854775807) (ht : ArgW w oX cX wl) (htz : ∀ x ∈ wl, x.2.size ≤ 9223372036854775807) :
    Calls Try.prog 5 #[.agg (dcs a b), .slice oX nX cX] w fun e w' => e = .returned (.bool true) ∧ Below w.heap.size w w' := by
  have hmix := mixed
  have HX := Lib.hid hx
  have LIM := Lib.hid (own_lim (S := S) hz)
  have HT := Lib.hid ht
  have HTZ := Lib.hid htz
  have HN := Lib.hid hn
  clear hx hz ht htz hn
  simp only [dcs]
  obtain ⟨X0, hX0⟩ : ∃ X0, X0 = w.alloc (.cells (dcs a b) 28) := ⟨_, rfl⟩
  have e0 : w.alloc (.cells #[a 0, b 0, a 1, b 1, a 2, b 2, a 3, b 3, a 4, b 4] 28) = X0 := hX0.symm
  have k0 : Blk X0 w.heap.size (dcs a b) 28 := by rw [hX0]; exact Blk.new _ _ _
  have g0 : Below w.heap.size w X0 := by rw [hX0]; exact (Gr.alloc _ _).below
  clear hX0
  go_enter Try.func5, Try.ntmps5
  go_wp2_with fail
  refine (wakes6_any X0).mono ?_
  rintro e w1 ⟨rfl, h1⟩
  have K0 := Lib.hid (k0.later h1)
  have B1 := Lib.hid (g0.trans (h1.mono g0.size))
  have HX1 := Lib.hid (HX.out.later B1.out)
  clear e0 k0 g0 h1 HX
  obtain ⟨c0, c1, c2, c3, c4, c5, c6, c7, c8, c9⟩ := dcells K0.out
  go_wp2_with fail
  clear c0 c1 c2 c3 c4 c5 c6 c7 c8 c9
  refine (own6_any a b T S w1 HX1.out).mono ?_
  rintro e w2 ⟨A, B, rfl, hO, h2⟩
  obtain ⟨T1, hT1⟩ : ∃ T1, T1 = fst (cutT T) 5 := ⟨_, rfl⟩
  obtain ⟨S1, hS1⟩ : ∃ S1, S1 = fst (cutS6 S) 5 := ⟨_, rfl⟩
  have DT := Lib.hid hT1
  have DS := Lib.hid hS1
  rw [← hT1, ← hS1] at hO LIM
  obtain ⟨X2, hX2⟩ : ∃ X2, X2 = w2.alloc (.cells (dcs A B) 28) := ⟨_, rfl⟩
  have eX2 : w2.alloc (.cells #[A 0, B 0, A 1, B 1, A 2, B 2, A 3, B 3, A 4, B 4] 28) = X2 := hX2.symm
  have k2 : Blk X2 w2.heap.size (dcs A B) 28 := by rw [hX2]; exact Blk.new _ _ _
  have g2 : Below w2.heap.size w2 X2 := by rw [hX2]; exact (Gr.alloc _ _).below
  obtain ⟨sa, sb⟩ := hO.slA
  have hsa := fun k w p m => st_slice (P := Try.prog) sa k w p m
  have hsb := fun k w p m => st_slice (P := Try.prog) sb k w p m
  have b2 := B1.out.trans (h2.mono B1.out.size)
  have HP0 := Lib.hid b2.size
  have b3 := b2.trans (g2.mono b2.size)
  obtain ⟨c0, c1, c2, c3, c4, c5, c6, c7, c8, c9⟩ := dcells k2
  have O2 := Lib.hid (hO.later g2)
  have K2 := Lib.hid k2
  have K02 := Lib.hid ((K0.out.later h2).later g2)
  have HX2 := Lib.hid ((HX1.out.later h2).later g2)
  have B3 := Lib.hid b3
  have HP12 : Hid (w1.heap.size ≤ w2.heap.size) := Lib.hid h2.size
  clear hX2 hT1 hS1 hO k2 g2 sa sb b2 b3 h2 HX1 K0 B1
  simp only [dcs]
  go_wp2_with fail
  clear hsa hsb eX2 c0 c1 c2 c3 c4 c5 c6 c7 c8 c9
  have hp : w.heap.size ≤ w2.heap.size := HP0.out
  have P0 : Hid (PI 28 9 3 w w2.heap.size w1.heap.size A B T1 S1 X2) := Lib.hid ⟨K2.out, O2.out, LIM.out, by rw [DT.out]; exact cut_twice T, by rw [DS.out]; exact cut_twiceS S, B3.out⟩
  clear K2 O2 LIM DT DS B3 K02 HX2
  go_loopw [6, 7, 8, 9, 10, 11, 12, 13, 14, 15, 22] (fun _ _ _ _ _ _ _ _ _ _ i wr => ∃ (k : Nat) (A B : Nat → Value) (T : Nat → List ByteArray) (S : Nat → List Int), k ≤ nX ∧ i = .int .i64 (k : Int) ∧ Hid (PI 28 9 3 w w2.heap.size w1.heap.size A B T S wr)) (fun _ _ _ _ _ _ _ _ _ _ i _ => nX - (intOf i).toNat)
  case atStart => exact ⟨0, A, B, T1, S1, Nat.zero_le _, rfl, P0⟩
  case round =>
    clear P0
    obtain ⟨k, A, B, T, S, hk, rfl, HP⟩ := hrel
    by_cases hkn : k < nX
    · have hkl : k < wl.length := by have := HN.out; omega
      rcases HT.out with ⟨_, h, _⟩ | ⟨ab, rfl, hcX⟩
      · rw [h] at hkl; simp at hkl
      · have d0 := (HP.out.low.cell (World.block_lt_of_cell? _ _ (hcX k hkl).1)).trans (hcX k hkl).1
        have d1 := (HP.out.low.cell (World.block_lt_of_cell? _ _ (hcX k hkl).2)).trans (hcX k hkl).2
        rw [← Addr.add_add] at d1
        have d1 : wr.cell? ⟨(ab.add (k * 2)).block, (ab.add (k * 2)).off + 1, none⟩ = some (.string wl[k].2) := d1
        have hsz := HTZ.out _ (List.getElem_mem hkl)
        obtain ⟨kd, hkd⟩ : ∃ kd, kd = wl[k].1 := ⟨_, rfl⟩
        obtain ⟨nm, hnmm⟩ : ∃ nm, nm = wl[k].2 := ⟨_, rfl⟩
        rw [← hkd] at d0
        rw [← hnmm] at d1 hsz
        clear hkd hnmm hcX
        by_cases h8 : k = 8
        · have h8' : ((k : Int) == 8) = true := by simp; omega
          clear h8
          go_wp2
          go_ret
          exact ⟨rfl, HP.out.low.alloc HP.out.low.size _⟩
        · have h8' : ((k : Int) == 8) = false := by simp; omega
          clear h8
          go_upto_region 8 with fail
          obtain ⟨Wa, hWa⟩ : ∃ Wa, Wa = wr.alloc (.cells #[.int .i64 kd, .string nm] 52) := ⟨_, rfl⟩
          rw [← hWa]
          have gA : Below wr.heap.size wr Wa := by rw [hWa]; exact (Gr.alloc _ _).below
          have KW := Lib.hid (show Blk Wa wr.heap.size #[.int .i64 kd, .string nm] 52 by rw [hWa]; exact Blk.new _ _ _)
          have PA := Lib.hid (HP.out.later gA)
          have HWr := Lib.hid KW.out.lt
          have HPW := Lib.hid HP.out.k.lt
          clear d0 d1 hWa gA HP
          obtain ⟨c0, c1, c2, c3, c4, c5, c6, c7, c8, c9⟩ := dcells PA.out.k
          go_wp2_with fail
          clear c0 c1 c2 c3 c4 c5 c6 c7 c8 c9
          refine (own6_any A B T S Wa (DArg.of_sl PA.out.ow.sl)).mono ?_
          rintro e W3 ⟨A2, B2, rfl, hO2, h3⟩
          rw [PA.out.ct, PA.out.cs] at hO2
          obtain ⟨X3, hX3⟩ : ∃ X3, X3 = W3.alloc (.cells (dcs A2 B2) 28) := ⟨_, rfl⟩
          have eX3 : W3.alloc (.cells #[A2 0, B2 0, A2 1, B2 1, A2 2, B2 2, A2 3, B2 3, A2 4, B2 4] 28) = X3 := hX3.symm
          have k3 : Blk X3 W3.heap.size (dcs A2 B2) 28 := by rw [hX3]; exact Blk.new _ _ _
          have g3 : Below W3.heap.size W3 X3 := by rw [hX3]; exact (Gr.alloc _ _).below
          obtain ⟨sa, sb⟩ := hO2.slA
          have hsa := fun k w p m => st_slice (P := Try.prog) sa k w p m
          have hsb := fun k w p m => st_slice (P := Try.prog) sb k w p m
          have b3 := h3.trans (g3.mono h3.size)
          have P3 := Lib.hid (PA.out.later b3)
          have KW3 := Lib.hid (KW.out.later b3)
          have K3 := Lib.hid k3
          have O3 := Lib.hid (hO2.later g3)
          have HWa : Hid (w.heap.size ≤ Wa.heap.size) := Lib.hid PA.out.low.size
          have HW3 : Hid (Wa.heap.size ≤ W3.heap.size) := Lib.hid h3.size
          clear hX3 k3 g3 h3 hO2 sa sb b3 PA KW
          obtain ⟨c0, c1, c2, c3, c4, c5, c6, c7, c8, c9⟩ := dcells P3.out.k
          have t0 : X3.cell? ⟨wr.heap.size, 0, none⟩ = some (.int .i64 kd) := KW3.out.cell 0
          have t1 : X3.cell? ⟨wr.heap.size, 1, none⟩ = some (.string nm) := KW3.out.cell 1
          simp only [dcs]
          go_wp2_with fail
          clear c0 c1 c2 c3 c4 c5 c6 c7 c8 c9 t0 t1 hsa hsb eX3
          refine (dputA_any A B T S X3 P3.out.ow.sl P3.out.lim kd nm hsz).mono ?_
          rintro e W4 ⟨G, H, TG, SG, id, e', rfl, hP⟩
          obtain ⟨X4, hX4⟩ : ∃ X4, X4 = W4.alloc (.cells (dcs G H) 28) := ⟨_, rfl⟩
          have eX4 : W4.alloc (.cells #[G 0, H 0, G 1, H 1, G 2, H 2, G 3, H 3, G 4, H 4] 28) = X4 := hX4.symm
          have k4 : Blk X4 W4.heap.size (dcs G H) 28 := by rw [hX4]; exact Blk.new _ _ _
          have g4 : Below W4.heap.size W4 X4 := by rw [hX4]; exact (Gr.alloc _ _).below
          obtain ⟨X5, hX5⟩ : ∃ X5, X5 = X4.alloc (.cells (nms fun _ => nilV) 37) := ⟨_, rfl⟩
          have eX5 : X4.alloc (.cells #[.slice none 0 0, .slice none 0 0, .slice none 0 0, .slice none 0 0, .slice none 0 0] 37) = X5 := hX5.symm
          have hq : X4.heap.size = W4.heap.size + 1 := by rw [hX4]; simp
          have k5 : Blk X5 (W4.heap.size + 1) (nms fun _ => nilV) 37 := by rw [hX5, ← hq]; exact Blk.new _ _ _
          have g5 : Below X4.heap.size X4 X5 := by rw [hX5]; exact (Gr.alloc _ _).below
          obtain ⟨sa, sb⟩ := hP.ow.slA
          have hsa := fun k w p m => st_slice (P := Try.prog) sa k w p m
          have hsb := fun k w p m => st_slice (P := Try.prog) sb k w p m
          clear hX4 hX5
          simp only [dcs]
          go_upto_region 12 with fail
          have b5 := hP.low.trans (g4.mono hP.low.size)
          have b5 := b5.trans (g5.mono b5.size)
          have g45 := g4.trans (g5.mono g4.size)
          have P5 := Lib.hid (P3.out.later b5)
          have KW5 := Lib.hid (KW3.out.later b5)
          have K5 := Lib.hid (K3.out.later b5)
          have O5 := Lib.hid (O3.out.later b5)
          have KG5 := Lib.hid (k4.later g5)
          have OG5 := Lib.hid (hP.ow.later g45)
          have LG := Lib.hid hP.lim
          have CS := Lib.hid hP.cse
          have KN5 := Lib.hid k5
          have HX34 := Lib.hid hP.low.size
          have H33 : Hid (W3.heap.size < X3.heap.size) := Lib.hid K3.out.lt
          have HU3 : Hid (DUnd A B X3.heap.size) := Lib.hid P3.out.ow.und
          have HV3 : Hid (DUnd A2 B2 X3.heap.size) := Lib.hid O3.out.und
          clear eX4 eX5 k4 k5 g4 g5 sa sb hsa hsb hq b5 g45 P3 KW3 K3 O3 hP
          obtain ⟨r, hr⟩ : ∃ r : Bool, r = true ↔ DGood hsh T S := by
            by_cases h : DGood hsh T S
            · exact ⟨true, by simp [h]⟩
            · exact ⟨false, by simp [h]⟩
          have HR := Lib.hid hr
          clear hr
          obtain ⟨c0, c1, c2, c3, c4, c5, c6, c7, c8, c9⟩ := dcells P5.out.k
          go_wp2_with fail
          clear c0 c1 c2 c3 c4 c5 c6 c7 c8 c9
          refine (eright_any A B T S X5 P5.out.ow.sl P5.out.lim r HR.out).mono ?_
          rintro e W6 ⟨rfl, h6⟩
          have P6 := Lib.hid (P5.out.later h6)
          have KW6 := Lib.hid (KW5.out.later h6)
          have K6 := Lib.hid (K5.out.later h6)
          have O6 := Lib.hid (O5.out.later h6)
          have KG6 := Lib.hid (KG5.out.later h6)
          have OG6 := Lib.hid (OG5.out.later h6)
          have KN6 := Lib.hid (KN5.out.later h6)
          clear P5 KW5 K5 O5 KG5 OG5 KN5 h6
          go_upto_if 42 with fail
          go_cut [13, 14] from 43 to 53 (fun s13 s14 wd => ∃ (NW : Nat → Value) (TW : Nat → List ByteArray), s13 = .int .i64 id ∧ s14 = .int .i64 e' ∧ Hid (Blk wd (W4.heap.size + 1) (nms NW) 37) ∧ Hid (∀ k, Sl wd (NW k) ((TW k).map .string)) ∧ Hid (e' = 0 → ∀ k, k < 5 → TG k = TW k) ∧ Hid (ButR (fun b => b = W4.heap.size + 1) W6 wd))
          case first =>
            cases r with
            | false =>
              have hng : ¬ DGood hsh T S := fun h => by have := HR.out.2 h; cases this
              rcases CS.out with ⟨_, h, _⟩ | ⟨_, _, _, ⟨_, rfl, rfl⟩ | ⟨h, _⟩⟩
              · exact (hng h).elim
              · clear hng
                go_wp2
                go_meet
                exact ⟨_, fun _ => [], rfl, rfl, KN6, Lib.hid (fun _ => Sl.nil _), Lib.hid (fun h => absurd h (by decide)), Lib.hid (ButR.refl _ _)⟩
              · exact (hng h).elim
            | true =>
              have hg : DGood hsh T S := HR.out.1 rfl
              have hne3 : ¬ W3.heap.size = W4.heap.size + 1 := by have := HX34.out; have := H33.out; omega
              have hnew : ¬ wr.heap.size = W4.heap.size + 1 := by have := HX34.out; have := H33.out; have := HW3.out; have := HWr.out; omega
              have DC := Lib.hid (fun w' (hb : ButR (fun b => b = W4.heap.size + 1) W6 w') => And.intro (dcells (hb.blk K6.out hne3)) (And.intro (show w'.cell? ⟨wr.heap.size, 0, none⟩ = some (.int .i64 kd) from (hb.blk KW6.out hnew).cell 0) (show w'.cell? ⟨wr.heap.size, 1, none⟩ = some (.string nm) from (hb.blk KW6.out hnew).cell 1)))
              have f1 := fun w' (hb : Below W6.heap.size W6 w') => (eof_any A2 B2 O6.out.slA.1 O6.out.slA.2 w').mono (R' := fun e wb => e = .returned (.agg (nms A2)) ∧ Below W6.heap.size W6 wb) fun e wb ⟨h1, h2⟩ => ⟨h1, hb.trans (h2.mono hb.size)⟩
              have f2 := fun w' (hb : Below W6.heap.size W6 w') => (eput_any A2 T w' (fun k => ((O6.out.later hb).sl k).1) P6.out.lim.t kd nm hsz).mono (R' := fun e wb => ∃ NW i c T', e = .returned (.tuple #[.agg (nms NW), .int .i64 i, .int .i64 c]) ∧ (∀ k, Sl wb (NW k) ((T' k).map .string)) ∧ EPutR T kd nm T' i c ∧ Below W6.heap.size W6 wb) fun e wb ⟨NW, i, c, T', h1, h2, h3, h4⟩ => ⟨NW, i, c, T', h1, h2, h3, hb.trans (h4.mono hb.size)⟩
              simp only [dcs, nms] at f1 f2
              have F1 := Lib.hid f1
              have F2 := Lib.hid f2
              have bc : Below W6.heap.size W6 W6 := Below.refl _ _
              clear f1 f2 hne3 hnew P6 K6 KW6 O6 KG6 OG6 HT HTZ HN hg
              go_upto_region 13 with fail
              first
                | go_region_held3 (fun w' => (w'.cell? ⟨W3.heap.size, 0, none⟩ = some (A2 0) ∧ w'.cell? ⟨W3.heap.size, 1, none⟩ = some (B2 0) ∧ w'.cell? ⟨W3.heap.size, 2, none⟩ = some (A2 1) ∧ w'.cell? ⟨W3.heap.size, 3, none⟩ = some (B2 1) ∧ w'.cell? ⟨W3.heap.size, 4, none⟩ = some (A2 2) ∧ w'.cell? ⟨W3.heap.size, 5, none⟩ = some (B2 2) ∧ w'.cell? ⟨W3.heap.size, 6, none⟩ = some (A2 3) ∧ w'.cell? ⟨W3.heap.size, 7, none⟩ = some (B2 3) ∧ w'.cell? ⟨W3.heap.size, 8, none⟩ = some (A2 4) ∧ w'.cell? ⟨W3.heap.size, 9, none⟩ = some (B2 4)) ∧ w'.cell? ⟨wr.heap.size, 0, none⟩ = some (.int .i64 kd) ∧ w'.cell? ⟨wr.heap.size, 1, none⟩ = some (.string nm))
                    (first | exact DC.out _ (ButR.of_below bc) | exact DC.out _ (ButR.of_below (bdr bc)) | exact DC.out _ ((ButR.of_below bc).trans (butR_nsets _ _ NW)))
                    (first | (go_at_call 16; (with_reducible refine (F1.out _ (by first | exact bc | exact bdr bc)).mono ?_); rintro e wb ⟨rfl, bc⟩) | (go_at_call 27; (with_reducible refine (F2.out _ (by first | exact bc | exact bdr bc)).mono ?_); rintro e wb ⟨NW, i, c, T', rfl, hS, hE, bc⟩; have kn := KN6.out.later bc; obtain ⟨d0, d1, d2, d3, d4⟩ := ncells kn; have z := kn.frozen; have hns : ∀ k, ∃ o m c, NW k = .slice o m c := (fun k => by obtain ⟨o, c, e, _⟩ := (hS k).mshape; exact ⟨o, _, c, e⟩); have hsa := fun k w p m => st_slice (P := Try.prog) hns k w p m; clear kn))
                | fail
              have hx : i = id ∧ c = e' ∧ (e' = 0 → ∀ k, k < 5 → TG k = T' k) := by
                rcases CS.out with ⟨he, _, _, hA⟩ | ⟨hne, _, _, ⟨h, _⟩ | ⟨_, hA⟩⟩
                · obtain ⟨x1, x2, x3⟩ := hA _ _ _ hE
                  exact ⟨x1, x2.trans he.symm, fun _ => x3⟩
                · exact (h (HR.out.1 trivial)).elim
                · obtain ⟨x1, x2⟩ := hA _ _ _ hE
                  exact ⟨x1, x2, fun e => (hne e).elim⟩
              obtain ⟨rfl, rfl, hx⟩ := hx
              have kn := KN6.out.later bc
              clear d0 d1 d2 d3 d4 z hsa
              go_wp2
              go_meet
              exact ⟨NW, T', rfl, rfl, Lib.hid (nsets_blk kn NW), Lib.hid (fun k => (hS k).past kn nms_no (butR_nsets _ _ NW)), Lib.hid hx, Lib.hid ((ButR.of_below bc).trans (butR_nsets _ _ NW))⟩
          case rest =>
            obtain ⟨NW, TW, rfl, rfl, KN7, SN7, EQ7, BR7⟩ := hcut
            obtain ⟨W7, rfl⟩ : ∃ x : World, x = wc := ⟨_, rfl⟩
            have hl : w2.heap.size < wr.heap.size ∧ wr.heap.size < Wa.heap.size ∧ Wa.heap.size ≤ W3.heap.size ∧ W3.heap.size < X3.heap.size ∧ X3.heap.size ≤ W4.heap.size ∧ w.heap.size ≤ w2.heap.size := ⟨HPW.out, HWr.out, HW3.out, H33.out, HX34.out, hp⟩
            have HLL := Lib.hid hl
            have P7 := Lib.hid (P6.out.butR KN6.out (by decide) (by decide) BR7.out (by have := HLL.out; omega) (by have := HLL.out; omega))
            have K7 := Lib.hid (BR7.out.blk K6.out (show ¬ W3.heap.size = W4.heap.size + 1 by have := HLL.out; omega))
            have O7 := Lib.hid (O6.out.butR KN6.out (by decide) (by decide) BR7.out)
            have KG7 := Lib.hid (BR7.out.blk KG6.out (show ¬ W4.heap.size = W4.heap.size + 1 by omega))
            have OG7 := Lib.hid (OG6.out.butR KN6.out (by decide) (by decide) BR7.out)
            clear hl P6 K6 O6 KG6 OG6 KN6 BR7 HPW HWr HW3 H33 HX34 HWa KW6 HR HP0
            go_upto_region 14 with fail
            go_cut [86] from 54 to 85 (fun s86 wd => s86 = .bool false ∧ Hid (Below W7.heap.size W7 wd))
            case first =>
              have bc : Below W7.heap.size W7 W7 := Below.refl _ _
              have DC := Lib.hid (fun w' (hb : Below W7.heap.size W7 w') => And.intro (dcells_at KG7.out hb) (ncells (KN7.out.later hb)))
              have f2 := fun w' (hb : Below W7.heap.size W7 w') => (eof_any G H OG7.out.slA.1 OG7.out.slA.2 w').mono (R' := fun e wb => e = .returned (.agg (nms G)) ∧ Below W7.heap.size W7 wb) fun e wb ⟨h1, h2⟩ => ⟨h1, hb.trans (h2.mono hb.size)⟩
              have hid0 : (id != id) = false := by simp
              rcases CS.out with ⟨he, _, hgg, _⟩ | ⟨he, hTG, hSG, _⟩
              · subst he
                have f1 := fun w' (hb : Below W7.heap.size W7 w') => (eright_any G H TG SG w' (OG7.out.later hb).sl LG.out true (by simp [hgg])).mono (R' := fun e wb => e = .returned (.bool true) ∧ Below W7.heap.size W7 wb) fun e wb ⟨h1, h2⟩ => ⟨h1, hb.trans (h2.mono hb.size)⟩
                have f3 := fun w' (hb : Below W7.heap.size W7 w') => (esame_any G NW TG TW w' (fun k => ((OG7.out.later hb).sl k).1) (fun k => (SN7.out k).later hb) true (by simpa using EQ7.out rfl)).mono (R' := fun e wb => e = .returned (.bool true) ∧ Below W7.heap.size W7 wb) fun e wb ⟨h1, h2⟩ => ⟨h1, hb.trans (h2.mono hb.size)⟩
                simp only [dcs, nms] at f1 f2 f3
                have F1 := Lib.hid f1
                have F2 := Lib.hid f2
                have F3 := Lib.hid f3
                clear f1 f2 f3 hgg HLL P7 K7 O7 KG7 OG7 KN7 SN7 EQ7 CS LG HT HTZ HN hp
                refine wp_region_held_drew (S := (fun w' => (w'.cell? ⟨W4.heap.size, 0, none⟩ = some (G 0) ∧ w'.cell? ⟨W4.heap.size, 1, none⟩ = some (H 0) ∧ w'.cell? ⟨W4.heap.size, 2, none⟩ = some (G 1) ∧ w'.cell? ⟨W4.heap.size, 3, none⟩ = some (H 1) ∧ w'.cell? ⟨W4.heap.size, 4, none⟩ = some (G 2) ∧ w'.cell? ⟨W4.heap.size, 5, none⟩ = some (H 2) ∧ w'.cell? ⟨W4.heap.size, 6, none⟩ = some (G 3) ∧ w'.cell? ⟨W4.heap.size, 7, none⟩ = some (H 3) ∧ w'.cell? ⟨W4.heap.size, 8, none⟩ = some (G 4) ∧ w'.cell? ⟨W4.heap.size, 9, none⟩ = some (H 4)) ∧ w'.cell? ⟨W4.heap.size + 1, 0, none⟩ = some (NW 0) ∧ w'.cell? ⟨W4.heap.size + 1, 1, none⟩ = some (NW 1) ∧ w'.cell? ⟨W4.heap.size + 1, 2, none⟩ = some (NW 2) ∧ w'.cell? ⟨W4.heap.size + 1, 3, none⟩ = some (NW 3) ∧ w'.cell? ⟨W4.heap.size + 1, 4, none⟩ = some (NW 4))) (by kernel_rfl) ?_ (fun hHeld => ?_)
                · exact DC.out _ (bdr bc)
                refine takeOn 0 { dst := some 54, op := Op.move (Operand.tmp 11), type := 32, pos := "law.go:163", after := #[], guard := none } (v := ?v0) rfl (by kernel_rfl) (by kernel_rfl) (by kernel_rfl) (fun _ _ _ h => h) (by rfl) (by assumption) ?hy0 ?_
                case hy0 =>
                  intro w hSw
                  try dsimp only at hSw
                  go_simp
                  try (with_reducible rfl)
                try simp only [Act.put, List.setIfInBounds_toArray, List.set_cons_zero, List.set_cons_succ]
                refine takeOn 1 { dst := some 55, op := Op.move (Operand.tmp 14), type := 32, pos := "law.go:163", after := #[], guard := none } (v := ?v1) rfl (by kernel_rfl) (by kernel_rfl) (by kernel_rfl) (fun _ _ _ h => h) (by rfl) (by assumption) ?hy1 ?_
                case hy1 =>
                  intro w hSw
                  try dsimp only at hSw
                  go_simp
                  try (with_reducible rfl)
                try simp only [Act.put, List.setIfInBounds_toArray, List.set_cons_zero, List.set_cons_succ]
                refine takeOn 2 { dst := some 56, op := Op.binOp BinOp.neq 32 (Operand.tmp 54) (Operand.tmp 55) 32, type := 4, pos := "law.go:163", after := #[{ on := 0, ground := Ground.data }, { on := 1, ground := Ground.data }], guard := none } (v := ?v2) rfl (by kernel_rfl) (by kernel_rfl) (by kernel_rfl) (fun _ _ _ h => h) (by rfl) (by assumption) ?hy2 ?_
                case hy2 =>
                  intro w hSw
                  try dsimp only at hSw
                  go_simp
                  try (with_reducible rfl)
                try simp only [Act.put, List.setIfInBounds_toArray, List.set_cons_zero, List.set_cons_succ]
                refine takeOn 3 { dst := some 57, op := Op.move (Operand.tmp 56), type := 4, pos := "law.go:163", after := #[{ on := 2, ground := Ground.data }], guard := none } (v := ?v3) rfl (by kernel_rfl) (by kernel_rfl) (by kernel_rfl) (fun _ _ _ h => h) (by rfl) (by assumption) ?hy3 ?_
                case hy3 =>
                  intro w hSw
                  try dsimp only at hSw
                  go_simp
                  try (with_reducible rfl)
                try simp only [Act.put, List.setIfInBounds_toArray, List.set_cons_zero, List.set_cons_succ]
                refine takeOn 4 { dst := some 58, op := Op.move (Operand.tmp 10), type := 3, pos := "law.go:163", after := #[{ on := 3, ground := Ground.guard }], guard := some (3, false) } (v := ?v4) rfl (by kernel_rfl) (by kernel_rfl) (by kernel_rfl) (fun _ _ _ h => h) (by rfl) (by assumption) ?hy4 ?_
                case hy4 =>
                  intro w hSw
                  try dsimp only at hSw
                  go_simp
                  try (with_reducible rfl)
                try simp only [Act.put, List.setIfInBounds_toArray, List.set_cons_zero, List.set_cons_succ]
                refine takeOn 5 { dst := some 59, op := Op.move (Operand.tmp 13), type := 3, pos := "law.go:163", after := #[{ on := 3, ground := Ground.guard }], guard := some (3, false) } (v := ?v5) rfl (by kernel_rfl) (by kernel_rfl) (by kernel_rfl) (fun _ _ _ h => h) (by rfl) (by assumption) ?hy5 ?_
                case hy5 =>
                  intro w hSw
                  try dsimp only at hSw
                  go_simp
                  try (with_reducible rfl)
                try simp only [Act.put, List.setIfInBounds_toArray, List.set_cons_zero, List.set_cons_succ]
                refine takeOn 6 { dst := some 60, op := Op.binOp BinOp.neq 3 (Operand.tmp 58) (Operand.tmp 59) 3, type := 4, pos := "law.go:163", after := #[{ on := 4, ground := Ground.data }, { on := 5, ground := Ground.data }, { on := 3, ground := Ground.guard }], guard := some (3, false) } (v := ?v6) rfl (by kernel_rfl) (by kernel_rfl) (by kernel_rfl) (fun _ _ _ h => h) (by rfl) (by assumption) ?hy6 ?_
                case hy6 =>
                  intro w hSw
                  try dsimp only at hSw
                  go_simp
                  try (with_reducible rfl)
                try simp only [Act.put, List.setIfInBounds_toArray, List.set_cons_zero, List.set_cons_succ]
                refine takeOn 7 { dst := some 61, op := Op.pick (Operand.tmp 57) (Operand.const (Value.bool true)) (Operand.tmp 60), type := 4, pos := "law.go:163", after := #[{ on := 3, ground := Ground.data }, { on := 6, ground := Ground.data }], guard := none } (v := ?v7) rfl (by kernel_rfl) (by kernel_rfl) (by kernel_rfl) (fun _ _ _ h => h) (by rfl) (by assumption) ?hy7 ?_
                case hy7 =>
                  intro w hSw
                  try dsimp only at hSw
                  go_simp
                  try (with_reducible rfl)
                try simp only [Act.put, List.setIfInBounds_toArray, List.set_cons_zero, List.set_cons_succ]
                refine takeOn 8 { dst := some 62, op := Op.move (Operand.tmp 61), type := 4, pos := "law.go:163", after := #[{ on := 7, ground := Ground.data }, { on := 3, ground := Ground.chain }], guard := none } (v := ?v8) rfl (by kernel_rfl) (by kernel_rfl) (by kernel_rfl) (fun _ _ _ h => h) (by rfl) (by assumption) ?hy8 ?_
                case hy8 =>
                  intro w hSw
                  try dsimp only at hSw
                  go_simp
                  try (with_reducible rfl)
                try simp only [Act.put, List.setIfInBounds_toArray, List.set_cons_zero, List.set_cons_succ]
                refine takeOn 9 { dst := some 63, op := Op.move (Operand.tmp 11), type := 32, pos := "law.go:163", after := #[{ on := 8, ground := Ground.guard }], guard := some (8, false) } (v := ?v9) rfl (by kernel_rfl) (by kernel_rfl) (by kernel_rfl) (fun _ _ _ h => h) (by rfl) (by assumption) ?hy9 ?_
                case hy9 =>
                  intro w hSw
                  try dsimp only at hSw
                  go_simp
                  try (with_reducible rfl)
                try simp only [Act.put, List.setIfInBounds_toArray, List.set_cons_zero, List.set_cons_succ]
                refine takeOn 10 { dst := some 64, op := Op.binOp BinOp.neq 32 (Operand.tmp 63) (Operand.const (Value.int IntKind.i64 0)) 32, type := 4, pos := "law.go:163", after := #[{ on := 9, ground := Ground.data }, { on := 8, ground := Ground.guard }], guard := some (8, false) } (v := ?v10) rfl (by kernel_rfl) (by kernel_rfl) (by kernel_rfl) (fun _ _ _ h => h) (by rfl) (by assumption) ?hy10 ?_
                case hy10 =>
                  intro w hSw
                  try dsimp only at hSw
                  go_simp
                  try (with_reducible rfl)
                try simp only [Act.put, List.setIfInBounds_toArray, List.set_cons_zero, List.set_cons_succ]
                refine takeOn 11 { dst := some 65, op := Op.move (Operand.tmp 64), type := 4, pos := "law.go:163", after := #[{ on := 10, ground := Ground.data }, { on := 8, ground := Ground.chain }, { on := 8, ground := Ground.guard }], guard := some (8, false) } (v := ?v11) rfl (by kernel_rfl) (by kernel_rfl) (by kernel_rfl) (fun _ _ _ h => h) (by rfl) (by assumption) ?hy11 ?_
                case hy11 =>
                  intro w hSw
                  try dsimp only at hSw
                  go_simp
                  try (with_reducible rfl)
                try simp only [Act.put, List.setIfInBounds_toArray, List.set_cons_zero, List.set_cons_succ]
                refine takeOff 12 { dst := some 66, op := Op.load 28 (Operand.tmp 9), type := 28, pos := "law.go:163", after := #[{ on := 11, ground := Ground.guard }], guard := some (11, true) } rfl (by kernel_rfl) (by kernel_rfl) (by kernel_rfl) (fun _ _ _ h => h) (by rfl) (by assumption) ?_
                try simp only [Act.put, List.setIfInBounds_toArray, List.set_cons_zero, List.set_cons_succ]
                refine takeOff 13 { dst := some 67, op := Op.call { callee := Callee.value (Operand.func 28), args := #[Operand.tmp 66], argTypes := #[28] }, type := 4, pos := "law.go:163", after := #[{ on := 12, ground := Ground.data }, { on := 11, ground := Ground.chain }, { on := 11, ground := Ground.guard }], guard := some (11, true) } rfl (by kernel_rfl) (by kernel_rfl) (by kernel_rfl) (fun _ _ _ h => h) (by rfl) (by assumption) ?_
                try simp only [Act.put, List.setIfInBounds_toArray, List.set_cons_zero, List.set_cons_succ]
                refine takeOff 14 { dst := some 68, op := Op.unOp UnOp.not 4 (Operand.tmp 67), type := 4, pos := "law.go:163", after := #[{ on := 13, ground := Ground.data }, { on := 11, ground := Ground.guard }], guard := some (11, true) } rfl (by kernel_rfl) (by kernel_rfl) (by kernel_rfl) (fun _ _ _ h => h) (by rfl) (by assumption) ?_
                try simp only [Act.put, List.setIfInBounds_toArray, List.set_cons_zero, List.set_cons_succ]
                refine takeOn 15 { dst := some 69, op := Op.pick (Operand.tmp 65) (Operand.tmp 68) (Operand.const (Value.bool false)), type := 4, pos := "law.go:163", after := #[{ on := 11, ground := Ground.data }, { on := 14, ground := Ground.data }, { on := 8, ground := Ground.guard }], guard := some (8, false) } (v := ?v15) rfl (by kernel_rfl) (by kernel_rfl) (by kernel_rfl) (fun _ _ _ h => h) (by rfl) (by assumption) ?hy15 ?_
                case hy15 =>
                  intro w hSw
                  try dsimp only at hSw
                  go_simp
                  try (with_reducible rfl)
                try simp only [Act.put, List.setIfInBounds_toArray, List.set_cons_zero, List.set_cons_succ]
                refine takeOn 16 { dst := some 70, op := Op.pick (Operand.tmp 62) (Operand.const (Value.bool true)) (Operand.tmp 69), type := 4, pos := "law.go:163", after := #[{ on := 8, ground := Ground.data }, { on := 15, ground := Ground.data }], guard := none } (v := ?v16) rfl (by kernel_rfl) (by kernel_rfl) (by kernel_rfl) (fun _ _ _ h => h) (by rfl) (by assumption) ?hy16 ?_
                case hy16 =>
                  intro w hSw
                  try dsimp only at hSw
                  go_simp
                  try (with_reducible rfl)
                try simp only [Act.put, List.setIfInBounds_toArray, List.set_cons_zero, List.set_cons_succ]
                refine takeOn 17 { dst := some 71, op := Op.move (Operand.tmp 70), type := 4, pos := "law.go:163", after := #[{ on := 16, ground := Ground.data }, { on := 13, ground := Ground.chain }], guard := none } (v := ?v17) rfl (by kernel_rfl) (by kernel_rfl) (by kernel_rfl) (fun _ _ _ h => h) (by rfl) (by assumption) ?hy17 ?_
                case hy17 =>
                  intro w hSw
                  try dsimp only at hSw
                  go_simp
                  try (with_reducible rfl)
                try simp only [Act.put, List.setIfInBounds_toArray, List.set_cons_zero, List.set_cons_succ]
                refine takeOn 18 { dst := some 72, op := Op.move (Operand.tmp 11), type := 32, pos := "law.go:163", after := #[{ on := 17, ground := Ground.guard }], guard := some (17, false) } (v := ?v18) rfl (by kernel_rfl) (by kernel_rfl) (by kernel_rfl) (fun _ _ _ h => h) (by rfl) (by assumption) ?hy18 ?_
                case hy18 =>
                  intro w hSw
                  try dsimp only at hSw
                  go_simp
                  try (with_reducible rfl)
                try simp only [Act.put, List.setIfInBounds_toArray, List.set_cons_zero, List.set_cons_succ]
                refine takeOn 19 { dst := some 73, op := Op.binOp BinOp.eql 32 (Operand.tmp 72) (Operand.const (Value.int IntKind.i64 0)) 32, type := 4, pos := "law.go:163", after := #[{ on := 18, ground := Ground.data }, { on := 17, ground := Ground.guard }], guard := some (17, false) } (v := ?v19) rfl (by kernel_rfl) (by kernel_rfl) (by kernel_rfl) (fun _ _ _ h => h) (by rfl) (by assumption) ?hy19 ?_
                case hy19 =>
                  intro w hSw
                  try dsimp only at hSw
                  go_simp
                  try (with_reducible rfl)
                try simp only [Act.put, List.setIfInBounds_toArray, List.set_cons_zero, List.set_cons_succ]
                refine takeOn 20 { dst := some 74, op := Op.move (Operand.tmp 73), type := 4, pos := "law.go:163", after := #[{ on := 19, ground := Ground.data }, { on := 17, ground := Ground.chain }, { on := 17, ground := Ground.guard }], guard := some (17, false) } (v := ?v20) rfl (by kernel_rfl) (by kernel_rfl) (by kernel_rfl) (fun _ _ _ h => h) (by rfl) (by assumption) ?hy20 ?_
                case hy20 =>
                  intro w hSw
                  try dsimp only at hSw
                  go_simp
                  try (with_reducible rfl)
                try simp only [Act.put, List.setIfInBounds_toArray, List.set_cons_zero, List.set_cons_succ]
                refine takeOn 21 { dst := some 75, op := Op.load 28 (Operand.tmp 9), type := 28, pos := "law.go:163", after := #[{ on := 20, ground := Ground.guard }], guard := some (20, true) } (v := ?v21) rfl (by kernel_rfl) (by kernel_rfl) (by kernel_rfl) (fun _ _ _ h => h) (by rfl) (by assumption) ?hy21 ?_
                case hy21 =>
                  intro w hSw
                  try dsimp only at hSw
                  go_simp
                  try (with_reducible rfl)
                try simp only [Act.put, List.setIfInBounds_toArray, List.set_cons_zero, List.set_cons_succ]
                refine wpAnyH_ready (rs := [22]) (by kernel_rfl) (by simp) ?_
                refine AllReadyH.cons (o := { dst := some 76, op := Op.call { callee := Callee.value (Operand.func 12), args := #[Operand.tmp 75], argTypes := #[28] }, type := 4, pos := "law.go:163", after := #[{ on := 21, ground := Ground.data }, { on := 20, ground := Ground.chain }, { on := 20, ground := Ground.guard }], guard := some (20, true) }) rfl (fun K hK => ?_) AllReadyH.nil
                go_simp
                (with_reducible refine (F1.out _ (by first | exact bc | exact bdr bc)).mono ?_); rintro e wb ⟨rfl, bc⟩
                try (go_wp2_with fail)
                refine hK.out _ _ ?_ (fun hHeld => ?_)
                · exact DC.out _ bc
                clear hK K
                try simp only [Act.put, List.setIfInBounds_toArray, List.set_cons_zero, List.set_cons_succ]
                refine takeOn 23 { dst := some 77, op := Op.unOp UnOp.not 4 (Operand.tmp 76), type := 4, pos := "law.go:163", after := #[{ on := 22, ground := Ground.data }, { on := 20, ground := Ground.guard }], guard := some (20, true) } (v := ?v23) rfl (by kernel_rfl) (by kernel_rfl) (by kernel_rfl) (fun _ _ _ h => h) (by rfl) (by assumption) ?hy23 ?_
                case hy23 =>
                  intro w hSw
                  try dsimp only at hSw
                  go_simp
                  try (with_reducible rfl)
                try simp only [Act.put, List.setIfInBounds_toArray, List.set_cons_zero, List.set_cons_succ]
                refine takeOn 24 { dst := some 78, op := Op.move (Operand.tmp 77), type := 4, pos := "law.go:163", after := #[{ on := 23, ground := Ground.data }, { on := 22, ground := Ground.chain }, { on := 20, ground := Ground.guard }], guard := some (20, true) } (v := ?v24) rfl (by kernel_rfl) (by kernel_rfl) (by kernel_rfl) (fun _ _ _ h => h) (by rfl) (by assumption) ?hy24 ?_
                case hy24 =>
                  intro w hSw
                  try dsimp only at hSw
                  go_simp
                  try (with_reducible rfl)
                try simp only [Act.put, List.setIfInBounds_toArray, List.set_cons_zero, List.set_cons_succ]
                refine takeOn 25 { dst := some 79, op := Op.load 28 (Operand.tmp 9), type := 28, pos := "law.go:163", after := #[{ on := 24, ground := Ground.guard }], guard := some (24, false) } (v := ?v25) rfl (by kernel_rfl) (by kernel_rfl) (by kernel_rfl) (fun _ _ _ h => h) (by rfl) (by assumption) ?hy25 ?_
                case hy25 =>
                  intro w hSw
                  try dsimp only at hSw
                  go_simp
                  try (with_reducible rfl)
                try simp only [Act.put, List.setIfInBounds_toArray, List.set_cons_zero, List.set_cons_succ]
                refine takeOn 27 { dst := some 81, op := Op.load 37 (Operand.tmp 12), type := 37, pos := "law.go:163", after := #[{ on := 24, ground := Ground.guard }], guard := some (24, false) } (v := ?v27) rfl (by kernel_rfl) (by kernel_rfl) (by kernel_rfl) (fun _ _ _ h => h) (by rfl) (by assumption) ?hy27 ?_
                case hy27 =>
                  intro w hSw
                  try dsimp only at hSw
                  go_simp
                  try (with_reducible rfl)
                try simp only [Act.put, List.setIfInBounds_toArray, List.set_cons_zero, List.set_cons_succ]
                refine wpAnyH_ready (rs := [26]) (by kernel_rfl) (by simp) ?_
                refine AllReadyH.cons (o := { dst := some 80, op := Op.call { callee := Callee.value (Operand.func 16), args := #[Operand.tmp 79], argTypes := #[28] }, type := 37, pos := "law.go:163", after := #[{ on := 25, ground := Ground.data }, { on := 24, ground := Ground.chain }, { on := 24, ground := Ground.guard }], guard := some (24, false) }) rfl (fun K hK => ?_) AllReadyH.nil
                go_simp
                (with_reducible refine (F2.out _ (by first | exact bc | exact bdr bc)).mono ?_); rintro e wb ⟨rfl, bc⟩
                try (go_wp2_with fail)
                refine hK.out _ _ ?_ (fun hHeld => ?_)
                · exact DC.out _ bc
                clear hK K
                try simp only [Act.put, List.setIfInBounds_toArray, List.set_cons_zero, List.set_cons_succ]
                refine wpAnyH_ready (rs := [28]) (by kernel_rfl) (by simp) ?_
                refine AllReadyH.cons (o := { dst := some 82, op := Op.call { callee := Callee.value (Operand.func 15), args := #[Operand.tmp 80, Operand.tmp 81], argTypes := #[37, 37] }, type := 4, pos := "law.go:163", after := #[{ on := 26, ground := Ground.data }, { on := 27, ground := Ground.data }, { on := 26, ground := Ground.chain }, { on := 24, ground := Ground.guard }], guard := some (24, false) }) rfl (fun K hK => ?_) AllReadyH.nil
                go_simp
                (with_reducible refine (F3.out _ (by first | exact bc | exact bdr bc)).mono ?_); rintro e wb ⟨rfl, bc⟩
                try (go_wp2_with fail)
                refine hK.out _ _ ?_ (fun hHeld => ?_)
                · exact DC.out _ bc
                clear hK K
                try simp only [Act.put, List.setIfInBounds_toArray, List.set_cons_zero, List.set_cons_succ]
                refine takeOn 29 { dst := some 83, op := Op.unOp UnOp.not 4 (Operand.tmp 82), type := 4, pos := "law.go:163", after := #[{ on := 28, ground := Ground.data }, { on := 24, ground := Ground.guard }], guard := some (24, false) } (v := ?v29) rfl (by kernel_rfl) (by kernel_rfl) (by kernel_rfl) (fun _ _ _ h => h) (by rfl) (by assumption) ?hy29 ?_
                case hy29 =>
                  intro w hSw
                  try dsimp only at hSw
                  go_simp
                  try (with_reducible rfl)
                try simp only [Act.put, List.setIfInBounds_toArray, List.set_cons_zero, List.set_cons_succ]
                refine takeOn 30 { dst := some 84, op := Op.pick (Operand.tmp 78) (Operand.const (Value.bool true)) (Operand.tmp 83), type := 4, pos := "law.go:163", after := #[{ on := 24, ground := Ground.data }, { on := 29, ground := Ground.data }, { on := 20, ground := Ground.guard }], guard := some (20, true) } (v := ?v30) rfl (by kernel_rfl) (by kernel_rfl) (by kernel_rfl) (fun _ _ _ h => h) (by rfl) (by assumption) ?hy30 ?_
                case hy30 =>
                  intro w hSw
                  try dsimp only at hSw
                  go_simp
                  try (with_reducible rfl)
                try simp only [Act.put, List.setIfInBounds_toArray, List.set_cons_zero, List.set_cons_succ]
                refine takeOn 31 { dst := some 85, op := Op.pick (Operand.tmp 74) (Operand.tmp 84) (Operand.const (Value.bool false)), type := 4, pos := "law.go:163", after := #[{ on := 20, ground := Ground.data }, { on := 30, ground := Ground.data }, { on := 17, ground := Ground.guard }], guard := some (17, false) } (v := ?v31) rfl (by kernel_rfl) (by kernel_rfl) (by kernel_rfl) (fun _ _ _ h => h) (by rfl) (by assumption) ?hy31 ?_
                case hy31 =>
                  intro w hSw
                  try dsimp only at hSw
                  go_simp
                  try (with_reducible rfl)
                try simp only [Act.put, List.setIfInBounds_toArray, List.set_cons_zero, List.set_cons_succ]
                refine takeOn 32 { dst := some 86, op := Op.pick (Operand.tmp 71) (Operand.const (Value.bool true)) (Operand.tmp 85), type := 4, pos := "law.go:163", after := #[{ on := 17, ground := Ground.data }, { on := 31, ground := Ground.data }], guard := none } (v := ?v32) rfl (by kernel_rfl) (by kernel_rfl) (by kernel_rfl) (fun _ _ _ h => h) (by rfl) (by assumption) ?hy32 ?_
                case hy32 =>
                  intro w hSw
                  try dsimp only at hSw
                  go_simp
                  try (with_reducible rfl)
                try simp only [Act.put, List.setIfInBounds_toArray, List.set_cons_zero, List.set_cons_succ]
                refine wpAnyH_done (by kernel_rfl) ?_ _
                go_wp2
                go_meet
                exact ⟨rfl, Lib.hid bc⟩
              · have f4 := fun w' (hb : Below W7.heap.size W7 w') => (none6_any G H TG SG w' (OG7.out.later hb).sl true (by simp [hTG, hSG])).mono (R' := fun e wb => e = .returned (.bool true) ∧ Below W7.heap.size W7 wb) fun e wb ⟨h1, h2⟩ => ⟨h1, hb.trans (h2.mono hb.size)⟩
                simp only [dcs] at f4
                have F4 := Lib.hid f4
                have hid1 : (e' != 0) = true := by simp [he]
                have hid2 : (e' == 0) = false := by simp [he]
                have hid3 : (e' != e') = false := by simp
                clear f2 f4 hTG hSG HLL P7 K7 O7 KG7 OG7 KN7 SN7 EQ7 CS LG HT HTZ HN hp he
                refine wp_region_held_drew (S := (fun w' => (w'.cell? ⟨W4.heap.size, 0, none⟩ = some (G 0) ∧ w'.cell? ⟨W4.heap.size, 1, none⟩ = some (H 0) ∧ w'.cell? ⟨W4.heap.size, 2, none⟩ = some (G 1) ∧ w'.cell? ⟨W4.heap.size, 3, none⟩ = some (H 1) ∧ w'.cell? ⟨W4.heap.size, 4, none⟩ = some (G 2) ∧ w'.cell? ⟨W4.heap.size, 5, none⟩ = some (H 2) ∧ w'.cell? ⟨W4.heap.size, 6, none⟩ = some (G 3) ∧ w'.cell? ⟨W4.heap.size, 7, none⟩ = some (H 3) ∧ w'.cell? ⟨W4.heap.size, 8, none⟩ = some (G 4) ∧ w'.cell? ⟨W4.heap.size, 9, none⟩ = some (H 4)) ∧ w'.cell? ⟨W4.heap.size + 1, 0, none⟩ = some (NW 0) ∧ w'.cell? ⟨W4.heap.size + 1, 1, none⟩ = some (NW 1) ∧ w'.cell? ⟨W4.heap.size + 1, 2, none⟩ = some (NW 2) ∧ w'.cell? ⟨W4.heap.size + 1, 3, none⟩ = some (NW 3) ∧ w'.cell? ⟨W4.heap.size + 1, 4, none⟩ = some (NW 4))) (by kernel_rfl) ?_ (fun hHeld => ?_)
                · exact DC.out _ (bdr bc)
                refine takeOn 0 { dst := some 54, op := Op.move (Operand.tmp 11), type := 32, pos := "law.go:163", after := #[], guard := none } (v := ?u0) rfl (by kernel_rfl) (by kernel_rfl) (by kernel_rfl) (fun _ _ _ h => h) (by rfl) (by assumption) ?hz0 ?_
                case hz0 =>
                  intro w hSw
                  try dsimp only at hSw
                  go_simp
                  try (with_reducible rfl)
                try simp only [Act.put, List.setIfInBounds_toArray, List.set_cons_zero, List.set_cons_succ]
                refine takeOn 1 { dst := some 55, op := Op.move (Operand.tmp 14), type := 32, pos := "law.go:163", after := #[], guard := none } (v := ?u1) rfl (by kernel_rfl) (by kernel_rfl) (by kernel_rfl) (fun _ _ _ h => h) (by rfl) (by assumption) ?hz1 ?_
                case hz1 =>
                  intro w hSw
                  try dsimp only at hSw
                  go_simp
                  try (with_reducible rfl)
                try simp only [Act.put, List.setIfInBounds_toArray, List.set_cons_zero, List.set_cons_succ]
                refine takeOn 2 { dst := some 56, op := Op.binOp BinOp.neq 32 (Operand.tmp 54) (Operand.tmp 55) 32, type := 4, pos := "law.go:163", after := #[{ on := 0, ground := Ground.data }, { on := 1, ground := Ground.data }], guard := none } (v := ?u2) rfl (by kernel_rfl) (by kernel_rfl) (by kernel_rfl) (fun _ _ _ h => h) (by rfl) (by assumption) ?hz2 ?_
                case hz2 =>
                  intro w hSw
                  try dsimp only at hSw
                  go_simp
                  try (with_reducible rfl)
                try simp only [Act.put, List.setIfInBounds_toArray, List.set_cons_zero, List.set_cons_succ]
                refine takeOn 3 { dst := some 57, op := Op.move (Operand.tmp 56), type := 4, pos := "law.go:163", after := #[{ on := 2, ground := Ground.data }], guard := none } (v := ?u3) rfl (by kernel_rfl) (by kernel_rfl) (by kernel_rfl) (fun _ _ _ h => h) (by rfl) (by assumption) ?hz3 ?_
                case hz3 =>
                  intro w hSw
                  try dsimp only at hSw
                  go_simp
                  try (with_reducible rfl)
                try simp only [Act.put, List.setIfInBounds_toArray, List.set_cons_zero, List.set_cons_succ]
                refine takeOn 4 { dst := some 58, op := Op.move (Operand.tmp 10), type := 3, pos := "law.go:163", after := #[{ on := 3, ground := Ground.guard }], guard := some (3, false) } (v := ?u4) rfl (by kernel_rfl) (by kernel_rfl) (by kernel_rfl) (fun _ _ _ h => h) (by rfl) (by assumption) ?hz4 ?_
                case hz4 =>
                  intro w hSw
                  try dsimp only at hSw
                  go_simp
                  try (with_reducible rfl)
                try simp only [Act.put, List.setIfInBounds_toArray, List.set_cons_zero, List.set_cons_succ]
                refine takeOn 5 { dst := some 59, op := Op.move (Operand.tmp 13), type := 3, pos := "law.go:163", after := #[{ on := 3, ground := Ground.guard }], guard := some (3, false) } (v := ?u5) rfl (by kernel_rfl) (by kernel_rfl) (by kernel_rfl) (fun _ _ _ h => h) (by rfl) (by assumption) ?hz5 ?_
                case hz5 =>
                  intro w hSw
                  try dsimp only at hSw
                  go_simp
                  try (with_reducible rfl)
                try simp only [Act.put, List.setIfInBounds_toArray, List.set_cons_zero, List.set_cons_succ]
                refine takeOn 6 { dst := some 60, op := Op.binOp BinOp.neq 3 (Operand.tmp 58) (Operand.tmp 59) 3, type := 4, pos := "law.go:163", after := #[{ on := 4, ground := Ground.data }, { on := 5, ground := Ground.data }, { on := 3, ground := Ground.guard }], guard := some (3, false) } (v := ?u6) rfl (by kernel_rfl) (by kernel_rfl) (by kernel_rfl) (fun _ _ _ h => h) (by rfl) (by assumption) ?hz6 ?_
                case hz6 =>
                  intro w hSw
                  try dsimp only at hSw
                  go_simp
                  try (with_reducible rfl)
                try simp only [Act.put, List.setIfInBounds_toArray, List.set_cons_zero, List.set_cons_succ]
                refine takeOn 7 { dst := some 61, op := Op.pick (Operand.tmp 57) (Operand.const (Value.bool true)) (Operand.tmp 60), type := 4, pos := "law.go:163", after := #[{ on := 3, ground := Ground.data }, { on := 6, ground := Ground.data }], guard := none } (v := ?u7) rfl (by kernel_rfl) (by kernel_rfl) (by kernel_rfl) (fun _ _ _ h => h) (by rfl) (by assumption) ?hz7 ?_
                case hz7 =>
                  intro w hSw
                  try dsimp only at hSw
                  go_simp
                  try (with_reducible rfl)
                try simp only [Act.put, List.setIfInBounds_toArray, List.set_cons_zero, List.set_cons_succ]
                refine takeOn 8 { dst := some 62, op := Op.move (Operand.tmp 61), type := 4, pos := "law.go:163", after := #[{ on := 7, ground := Ground.data }, { on := 3, ground := Ground.chain }], guard := none } (v := ?u8) rfl (by kernel_rfl) (by kernel_rfl) (by kernel_rfl) (fun _ _ _ h => h) (by rfl) (by assumption) ?hz8 ?_
                case hz8 =>
                  intro w hSw
                  try dsimp only at hSw
                  go_simp
                  try (with_reducible rfl)
                try simp only [Act.put, List.setIfInBounds_toArray, List.set_cons_zero, List.set_cons_succ]
                refine takeOn 9 { dst := some 63, op := Op.move (Operand.tmp 11), type := 32, pos := "law.go:163", after := #[{ on := 8, ground := Ground.guard }], guard := some (8, false) } (v := ?u9) rfl (by kernel_rfl) (by kernel_rfl) (by kernel_rfl) (fun _ _ _ h => h) (by rfl) (by assumption) ?hz9 ?_
                case hz9 =>
                  intro w hSw
                  try dsimp only at hSw
                  go_simp
                  try (with_reducible rfl)
                try simp only [Act.put, List.setIfInBounds_toArray, List.set_cons_zero, List.set_cons_succ]
                refine takeOn 10 { dst := some 64, op := Op.binOp BinOp.neq 32 (Operand.tmp 63) (Operand.const (Value.int IntKind.i64 0)) 32, type := 4, pos := "law.go:163", after := #[{ on := 9, ground := Ground.data }, { on := 8, ground := Ground.guard }], guard := some (8, false) } (v := ?u10) rfl (by kernel_rfl) (by kernel_rfl) (by kernel_rfl) (fun _ _ _ h => h) (by rfl) (by assumption) ?hz10 ?_
                case hz10 =>
                  intro w hSw
                  try dsimp only at hSw
                  go_simp
                  try (with_reducible rfl)
                try simp only [Act.put, List.setIfInBounds_toArray, List.set_cons_zero, List.set_cons_succ]
                refine takeOn 11 { dst := some 65, op := Op.move (Operand.tmp 64), type := 4, pos := "law.go:163", after := #[{ on := 10, ground := Ground.data }, { on := 8, ground := Ground.chain }, { on := 8, ground := Ground.guard }], guard := some (8, false) } (v := ?u11) rfl (by kernel_rfl) (by kernel_rfl) (by kernel_rfl) (fun _ _ _ h => h) (by rfl) (by assumption) ?hz11 ?_
                case hz11 =>
                  intro w hSw
                  try dsimp only at hSw
                  go_simp
                  try (with_reducible rfl)
                try simp only [Act.put, List.setIfInBounds_toArray, List.set_cons_zero, List.set_cons_succ]
                refine takeOn 12 { dst := some 66, op := Op.load 28 (Operand.tmp 9), type := 28, pos := "law.go:163", after := #[{ on := 11, ground := Ground.guard }], guard := some (11, true) } (v := ?u12) rfl (by kernel_rfl) (by kernel_rfl) (by kernel_rfl) (fun _ _ _ h => h) (by rfl) (by assumption) ?hz12 ?_
                case hz12 =>
                  intro w hSw
                  try dsimp only at hSw
                  go_simp
                  try (with_reducible rfl)
                try simp only [Act.put, List.setIfInBounds_toArray, List.set_cons_zero, List.set_cons_succ]
                refine wpAnyH_ready (rs := [13]) (by kernel_rfl) (by simp) ?_
                refine AllReadyH.cons (o := { dst := some 67, op := Op.call { callee := Callee.value (Operand.func 28), args := #[Operand.tmp 66], argTypes := #[28] }, type := 4, pos := "law.go:163", after := #[{ on := 12, ground := Ground.data }, { on := 11, ground := Ground.chain }, { on := 11, ground := Ground.guard }], guard := some (11, true) }) rfl (fun K hK => ?_) AllReadyH.nil
                go_simp
                (with_reducible refine (F4.out _ (by first | exact bc | exact bdr bc)).mono ?_); rintro e wb ⟨rfl, bc⟩
                try (go_wp2_with fail)
                refine hK.out _ _ ?_ (fun hHeld => ?_)
                · exact DC.out _ bc
                clear hK K
                try simp only [Act.put, List.setIfInBounds_toArray, List.set_cons_zero, List.set_cons_succ]
                refine takeOn 14 { dst := some 68, op := Op.unOp UnOp.not 4 (Operand.tmp 67), type := 4, pos := "law.go:163", after := #[{ on := 13, ground := Ground.data }, { on := 11, ground := Ground.guard }], guard := some (11, true) } (v := ?u14) rfl (by kernel_rfl) (by kernel_rfl) (by kernel_rfl) (fun _ _ _ h => h) (by rfl) (by assumption) ?hz14 ?_
                case hz14 =>
                  intro w hSw
                  try dsimp only at hSw
                  go_simp
                  try (with_reducible rfl)
                try simp only [Act.put, List.setIfInBounds_toArray, List.set_cons_zero, List.set_cons_succ]
                refine takeOn 15 { dst := some 69, op := Op.pick (Operand.tmp 65) (Operand.tmp 68) (Operand.const (Value.bool false)), type := 4, pos := "law.go:163", after := #[{ on := 11, ground := Ground.data }, { on := 14, ground := Ground.data }, { on := 8, ground := Ground.guard }], guard := some (8, false) } (v := ?u15) rfl (by kernel_rfl) (by kernel_rfl) (by kernel_rfl) (fun _ _ _ h => h) (by rfl) (by assumption) ?hz15 ?_
                case hz15 =>
                  intro w hSw
                  try dsimp only at hSw
                  go_simp
                  try (with_reducible rfl)
                try simp only [Act.put, List.setIfInBounds_toArray, List.set_cons_zero, List.set_cons_succ]
                refine takeOn 16 { dst := some 70, op := Op.pick (Operand.tmp 62) (Operand.const (Value.bool true)) (Operand.tmp 69), type := 4, pos := "law.go:163", after := #[{ on := 8, ground := Ground.data }, { on := 15, ground := Ground.data }], guard := none } (v := ?u16) rfl (by kernel_rfl) (by kernel_rfl) (by kernel_rfl) (fun _ _ _ h => h) (by rfl) (by assumption) ?hz16 ?_
                case hz16 =>
                  intro w hSw
                  try dsimp only at hSw
                  go_simp
                  try (with_reducible rfl)
                try simp only [Act.put, List.setIfInBounds_toArray, List.set_cons_zero, List.set_cons_succ]
                refine takeOn 17 { dst := some 71, op := Op.move (Operand.tmp 70), type := 4, pos := "law.go:163", after := #[{ on := 16, ground := Ground.data }, { on := 13, ground := Ground.chain }], guard := none } (v := ?u17) rfl (by kernel_rfl) (by kernel_rfl) (by kernel_rfl) (fun _ _ _ h => h) (by rfl) (by assumption) ?hz17 ?_
                case hz17 =>
                  intro w hSw
                  try dsimp only at hSw
                  go_simp
                  try (with_reducible rfl)
                try simp only [Act.put, List.setIfInBounds_toArray, List.set_cons_zero, List.set_cons_succ]
                refine takeOn 18 { dst := some 72, op := Op.move (Operand.tmp 11), type := 32, pos := "law.go:163", after := #[{ on := 17, ground := Ground.guard }], guard := some (17, false) } (v := ?u18) rfl (by kernel_rfl) (by kernel_rfl) (by kernel_rfl) (fun _ _ _ h => h) (by rfl) (by assumption) ?hz18 ?_
                case hz18 =>
                  intro w hSw
                  try dsimp only at hSw
                  go_simp
                  try (with_reducible rfl)
                try simp only [Act.put, List.setIfInBounds_toArray, List.set_cons_zero, List.set_cons_succ]
                refine takeOn 19 { dst := some 73, op := Op.binOp BinOp.eql 32 (Operand.tmp 72) (Operand.const (Value.int IntKind.i64 0)) 32, type := 4, pos := "law.go:163", after := #[{ on := 18, ground := Ground.data }, { on := 17, ground := Ground.guard }], guard := some (17, false) } (v := ?u19) rfl (by kernel_rfl) (by kernel_rfl) (by kernel_rfl) (fun _ _ _ h => h) (by rfl) (by assumption) ?hz19 ?_
                case hz19 =>
                  intro w hSw
                  try dsimp only at hSw
                  go_simp
                  try (with_reducible rfl)
                try simp only [Act.put, List.setIfInBounds_toArray, List.set_cons_zero, List.set_cons_succ]
                refine takeOn 20 { dst := some 74, op := Op.move (Operand.tmp 73), type := 4, pos := "law.go:163", after := #[{ on := 19, ground := Ground.data }, { on := 17, ground := Ground.chain }, { on := 17, ground := Ground.guard }], guard := some (17, false) } (v := ?u20) rfl (by kernel_rfl) (by kernel_rfl) (by kernel_rfl) (fun _ _ _ h => h) (by rfl) (by assumption) ?hz20 ?_
                case hz20 =>
                  intro w hSw
                  try dsimp only at hSw
                  go_simp
                  try (with_reducible rfl)
                try simp only [Act.put, List.setIfInBounds_toArray, List.set_cons_zero, List.set_cons_succ]
                refine takeOff 21 { dst := some 75, op := Op.load 28 (Operand.tmp 9), type := 28, pos := "law.go:163", after := #[{ on := 20, ground := Ground.guard }], guard := some (20, true) } rfl (by kernel_rfl) (by kernel_rfl) (by kernel_rfl) (fun _ _ _ h => h) (by rfl) (by assumption) ?_
                try simp only [Act.put, List.setIfInBounds_toArray, List.set_cons_zero, List.set_cons_succ]
                refine takeOff 22 { dst := some 76, op := Op.call { callee := Callee.value (Operand.func 12), args := #[Operand.tmp 75], argTypes := #[28] }, type := 4, pos := "law.go:163", after := #[{ on := 21, ground := Ground.data }, { on := 20, ground := Ground.chain }, { on := 20, ground := Ground.guard }], guard := some (20, true) } rfl (by kernel_rfl) (by kernel_rfl) (by kernel_rfl) (fun _ _ _ h => h) (by rfl) (by assumption) ?_
                try simp only [Act.put, List.setIfInBounds_toArray, List.set_cons_zero, List.set_cons_succ]
                refine takeOff 23 { dst := some 77, op := Op.unOp UnOp.not 4 (Operand.tmp 76), type := 4, pos := "law.go:163", after := #[{ on := 22, ground := Ground.data }, { on := 20, ground := Ground.guard }], guard := some (20, true) } rfl (by kernel_rfl) (by kernel_rfl) (by kernel_rfl) (fun _ _ _ h => h) (by rfl) (by assumption) ?_
                try simp only [Act.put, List.setIfInBounds_toArray, List.set_cons_zero, List.set_cons_succ]
                refine takeOff 24 { dst := some 78, op := Op.move (Operand.tmp 77), type := 4, pos := "law.go:163", after := #[{ on := 23, ground := Ground.data }, { on := 22, ground := Ground.chain }, { on := 20, ground := Ground.guard }], guard := some (20, true) } rfl (by kernel_rfl) (by kernel_rfl) (by kernel_rfl) (fun _ _ _ h => h) (by rfl) (by assumption) ?_
                try simp only [Act.put, List.setIfInBounds_toArray, List.set_cons_zero, List.set_cons_succ]
                refine takeOff 25 { dst := some 79, op := Op.load 28 (Operand.tmp 9), type := 28, pos := "law.go:163", after := #[{ on := 24, ground := Ground.guard }], guard := some (24, false) } rfl (by kernel_rfl) (by kernel_rfl) (by kernel_rfl) (fun _ _ _ h => h) (by rfl) (by assumption) ?_
                try simp only [Act.put, List.setIfInBounds_toArray, List.set_cons_zero, List.set_cons_succ]
                refine takeOff 26 { dst := some 80, op := Op.call { callee := Callee.value (Operand.func 16), args := #[Operand.tmp 79], argTypes := #[28] }, type := 37, pos := "law.go:163", after := #[{ on := 25, ground := Ground.data }, { on := 24, ground := Ground.chain }, { on := 24, ground := Ground.guard }], guard := some (24, false) } rfl (by kernel_rfl) (by kernel_rfl) (by kernel_rfl) (fun _ _ _ h => h) (by rfl) (by assumption) ?_
                try simp only [Act.put, List.setIfInBounds_toArray, List.set_cons_zero, List.set_cons_succ]
                refine takeOff 27 { dst := some 81, op := Op.load 37 (Operand.tmp 12), type := 37, pos := "law.go:163", after := #[{ on := 24, ground := Ground.guard }], guard := some (24, false) } rfl (by kernel_rfl) (by kernel_rfl) (by kernel_rfl) (fun _ _ _ h => h) (by rfl) (by assumption) ?_
                try simp only [Act.put, List.setIfInBounds_toArray, List.set_cons_zero, List.set_cons_succ]
                refine takeOff 28 { dst := some 82, op := Op.call { callee := Callee.value (Operand.func 15), args := #[Operand.tmp 80, Operand.tmp 81], argTypes := #[37, 37] }, type := 4, pos := "law.go:163", after := #[{ on := 26, ground := Ground.data }, { on := 27, ground := Ground.data }, { on := 26, ground := Ground.chain }, { on := 24, ground := Ground.guard }], guard := some (24, false) } rfl (by kernel_rfl) (by kernel_rfl) (by kernel_rfl) (fun _ _ _ h => h) (by rfl) (by assumption) ?_
                try simp only [Act.put, List.setIfInBounds_toArray, List.set_cons_zero, List.set_cons_succ]
                refine takeOff 29 { dst := some 83, op := Op.unOp UnOp.not 4 (Operand.tmp 82), type := 4, pos := "law.go:163", after := #[{ on := 28, ground := Ground.data }, { on := 24, ground := Ground.guard }], guard := some (24, false) } rfl (by kernel_rfl) (by kernel_rfl) (by kernel_rfl) (fun _ _ _ h => h) (by rfl) (by assumption) ?_
                try simp only [Act.put, List.setIfInBounds_toArray, List.set_cons_zero, List.set_cons_succ]
                refine takeOff 30 { dst := some 84, op := Op.pick (Operand.tmp 78) (Operand.const (Value.bool true)) (Operand.tmp 83), type := 4, pos := "law.go:163", after := #[{ on := 24, ground := Ground.data }, { on := 29, ground := Ground.data }, { on := 20, ground := Ground.guard }], guard := some (20, true) } rfl (by kernel_rfl) (by kernel_rfl) (by kernel_rfl) (fun _ _ _ h => h) (by rfl) (by assumption) ?_
                try simp only [Act.put, List.setIfInBounds_toArray, List.set_cons_zero, List.set_cons_succ]
                refine takeOn 31 { dst := some 85, op := Op.pick (Operand.tmp 74) (Operand.tmp 84) (Operand.const (Value.bool false)), type := 4, pos := "law.go:163", after := #[{ on := 20, ground := Ground.data }, { on := 30, ground := Ground.data }, { on := 17, ground := Ground.guard }], guard := some (17, false) } (v := ?u31) rfl (by kernel_rfl) (by kernel_rfl) (by kernel_rfl) (fun _ _ _ h => h) (by rfl) (by assumption) ?hz31 ?_
                case hz31 =>
                  intro w hSw
                  try dsimp only at hSw
                  go_simp
                  try (with_reducible rfl)
                try simp only [Act.put, List.setIfInBounds_toArray, List.set_cons_zero, List.set_cons_succ]
                refine takeOn 32 { dst := some 86, op := Op.pick (Operand.tmp 71) (Operand.const (Value.bool true)) (Operand.tmp 85), type := 4, pos := "law.go:163", after := #[{ on := 17, ground := Ground.data }, { on := 31, ground := Ground.data }], guard := none } (v := ?u32) rfl (by kernel_rfl) (by kernel_rfl) (by kernel_rfl) (fun _ _ _ h => h) (by rfl) (by assumption) ?hz32 ?_
                case hz32 =>
                  intro w hSw
                  try dsimp only at hSw
                  go_simp
                  try (with_reducible rfl)
                try simp only [Act.put, List.setIfInBounds_toArray, List.set_cons_zero, List.set_cons_succ]
                refine wpAnyH_done (by kernel_rfl) ?_ _
                go_wp2
                go_meet
                exact ⟨rfl, Lib.hid bc⟩
            case rest =>
              obtain ⟨rfl, HB7⟩ := hcut
              obtain ⟨W8, rfl⟩ : ∃ x : World, x = wc := ⟨_, rfl⟩
              have P8 := Lib.hid (P7.out.later HB7.out)
              have K8 := Lib.hid (K7.out.later HB7.out)
              have O8 := Lib.hid (O7.out.later HB7.out)
              have KG8 := Lib.hid (KG7.out.later HB7.out)
              have OG8 := Lib.hid (OG7.out.later HB7.out)
              clear P7 K7 O7 KG7 OG7 KN7 SN7 EQ7 HB7 CS
              obtain ⟨c0, c1, c2, c3, c4, c5, c6, c7, c8, c9⟩ := dcells KG8.out
              go_wp2_with fail
              clear c0 c1 c2 c3 c4 c5 c6 c7 c8 c9
              refine (own6_any G H TG SG W8 (DArg.of_sl OG8.out.sl)).mono ?_
              rintro e W9 ⟨C, D, rfl, hO9, h9⟩
              obtain ⟨X9, hX9⟩ : ∃ X9, X9 = W9.alloc (.cells (dcs C D) 28) := ⟨_, rfl⟩
              have eX9 : W9.alloc (.cells #[C 0, D 0, C 1, D 1, C 2, D 2, C 3, D 3, C 4, D 4] 28) = X9 := hX9.symm
              have k9 : Blk X9 W9.heap.size (dcs C D) 28 := by rw [hX9]; exact Blk.new _ _ _
              have g9 : Below W9.heap.size W9 X9 := by rw [hX9]; exact (Gr.alloc _ _).below
              obtain ⟨sa, sb⟩ := hO9.slA
              have hsa := fun k w p m => st_slice (P := Try.prog) sa k w p m
              have hsb := fun k w p m => st_slice (P := Try.prog) sb k w p m
              have b9 := h9.trans (g9.mono h9.size)
              have P9 := Lib.hid (P8.out.later b9)
              have K9 := Lib.hid (K8.out.later b9)
              have O9 := Lib.hid (O8.out.later b9)
              have KG9 := Lib.hid (KG8.out.later b9)
              have WT9 := Lib.hid (OG8.out.wt b9)
              have KC9 := Lib.hid k9
              have OC9 := Lib.hid (hO9.later g9)
              have H89 : Hid (W8.heap.size ≤ W9.heap.size) := Lib.hid h9.size
              have HP8 : Hid (w2.heap.size < W8.heap.size) := Lib.hid P8.out.k.lt
              have H8X : Hid (W8.heap.size ≤ X9.heap.size) := Lib.hid b9.size
              clear hX9 k9 g9 sa sb b9 P8 K8 O8 KG8 OG8 hO9 h9
              obtain ⟨c0, c1, c2, c3, c4, c5, c6, c7, c8, c9⟩ := dcells KG9.out
              simp only [dcs]
              go_wp2_with fail
              clear c0 c1 c2 c3 c4 c5 c6 c7 c8 c9 hsa hsb eX9
              refine (spoil6_any X3.heap.size W8.heap.size G H _ _ X9 WT9.out H8X.out).mono ?_
              rintro e W10 ⟨rfl, h10⟩
              have P10 := Lib.hid (P9.out.spoilt HU3.out h10 (by have := HLL.out; omega) (by have := HLL.out; omega))
              have K10 := Lib.hid (h10.blk K9.out (fun e => absurd e.1 (Nat.not_le.2 HLL.out.2.2.2.1)))
              have O10 := Lib.hid (O9.out.spoilt HV3.out h10)
              have KC10 := Lib.hid (h10.blk KC9.out (fun e => absurd e.2 (Nat.not_lt.2 H89.out)))
              have OC10 := Lib.hid (OC9.out.past h10)
              clear P9 K9 O9 KG9 WT9 KC9 OC9 h10 HU3 HV3 H89 H8X
              obtain ⟨c0, c1, c2, c3, c4, c5, c6, c7, c8, c9⟩ := dcells P10.out.k
              obtain ⟨d0, d1, d2, d3, d4, d5, d6, d7, d8, d9⟩ := dcells K10.out
              go_wp2_with fail
              clear c0 c1 c2 c3 c4 c5 c6 c7 c8 c9 d0 d1 d2 d3 d4 d5 d6 d7 d8 d9
              refine (same6_any A B A2 B2 T T S S W10 P10.out.ow.sl O10.out.sl true (by simp)).mono ?_
              rintro e W11 ⟨rfl, h11⟩
              have P11 := Lib.hid (P10.out.later h11)
              have KC11 := Lib.hid (KC10.out.later h11)
              have OC11 := Lib.hid (OC10.out.later h11)
              clear P10 K10 O10 KC10 OC10 h11
              by_cases he : e' = 0
              · subst he
                have hL := own_lim (S := SG) LG.out.z
                have PN := Lib.hid (P11.out.next OC11.out hL (by have := HP12.out; have := HP8.out; omega) (by decide) (by decide) hp)
                obtain ⟨c0, c1, c2, c3, c4, c5, c6, c7, c8, c9⟩ := dcells P11.out.k
                obtain ⟨d0, d1, d2, d3, d4, d5, d6, d7, d8, d9⟩ := dcells KC11.out
                have hs := store_dict P11.out.k OC11.out.slA.1 OC11.out.slA.2
                have hl := load_dict KC11.out
                have hfr := fun i => P11.out.k.frozen i
                obtain ⟨sa, sb⟩ := OC11.out.slA
                have hsa := fun k w p m => st_slice (P := Try.prog) sa k w p m
                have hsb := fun k w p m => st_slice (P := Try.prog) sb k w p m
                go_wp2_with fail
                go_roundw
                case rel => exact ⟨k + 1, C, D, fst (cutT TG) 5, fst (cutS6 SG) 5, by omega, by go_num, PN⟩
                case measure => simp [intOf]; omega
              · have he' : (e' == 0) = false := by simp [he]
                clear he
                go_wp2_with fail
                go_roundw
                case rel => exact ⟨k + 1, A, B, T, S, by omega, by go_num, P11⟩
                case measure => simp [intOf]; omega
    · go_wp2
      go_ret
      exact ⟨rfl, HP.out.low⟩
end Go.Proofs.Ytmghbejbdkoehaa

