/- The laws' none and spoil. -/
import Derived.Test.YtmghbejbdkoehaaK24
namespace Go.Proofs.Kit
open Go.RowKit
/-- A row of the call's own, of so many, whatever they are. -/
def Wt (t : TypeId) (B E : Nat) (w : World) (v : Value) (n : Nat) : Prop :=
  n ≤ 9223372036854775807 ∧ ((v = .slice none 0 0 ∧ n = 0) ∨ ∃ g cap cur, v = .slice (some ⟨g, 0, none⟩) n cap ∧ n ≤ cap ∧ cap ≤ 9223372036854775807 ∧ B ≤ g ∧ g < E ∧ Blk w g cur t ∧ n ≤ cur.size)
theorem Ow.wt {t : TypeId} {B E : Nat} {w : World} {v : Value} {l : List Value} (h : Ow t B w v l) (hE : ∀ g, v.ownBlock = some g → g < E) : Wt t B E w v l.length := by
  refine ⟨h.len, ?_⟩
  rcases h.2 with ⟨h1, h2⟩ | ⟨g, cap, cur, rfl, hg, hb, h1, h2, h3, h4⟩
  · exact .inl ⟨h1, by simpa using h2⟩
  · refine .inr ⟨g, cap, cur, rfl, h1, by unfold maxLen at h2; omega, hg, hE g rfl, hb, ?_⟩
    have := congrArg List.length h4
    simp at this
    omega
theorem Wt.later {t : TypeId} {B E : Nat} {w w' : World} {v : Value} {n : Nat} (h : Wt t B E w v n) (g : Below w.heap.size w w') : Wt t B E w' v n := by
  refine ⟨h.1, ?_⟩
  rcases h.2 with h | ⟨b, cap, cur, h1, h2, h3, h4, h5, h6, h7⟩
  · exact .inl h
  · exact .inr ⟨b, cap, cur, h1, h2, h3, h4, h5, h6.later g, h7⟩
/-- Whatever cell is written, it is one. -/
theorem Wt.set {t : TypeId} {B E : Nat} {w : World} {v : Value} {n : Nat} (h : Wt t B E w v n) (g i : Nat) (u : Value) : Wt t B E (w.setCell ⟨g, i, none⟩ u) v n := by
  refine ⟨h.1, ?_⟩
  rcases h.2 with h | ⟨b, cap, cur, h1, h2, h3, h4, h5, h6, h7⟩
  · exact .inl h
  · by_cases e : b = g
    · subst e
      exact .inr ⟨b, cap, cur.setIfInBounds i u, h1, h2, h3, h4, h5, h6.set i u, by simpa using h7⟩
    · exact .inr ⟨b, cap, cur, h1, h2, h3, h4, h5, h6.other e u, h7⟩
/-- One of its cells. -/
theorem Wt.at {t : TypeId} {B E : Nat} {w : World} {v : Value} {n : Nat} (h : Wt t B E w v n) {i : Nat} (hi : i < n) : ∃ g cap x, v = .slice (some ⟨g, 0, none⟩) n cap ∧ B ≤ g ∧ g < E ∧ w.cell? ⟨g, i, none⟩ = some x ∧ w.frozen? ⟨g, i, none⟩ = false := by
  rcases h.2 with ⟨_, h⟩ | ⟨b, cap, cur, h1, h2, h3, h4, h5, h6, h7⟩
  · omega
  · exact ⟨b, cap, cur[i]'(by omega), h1, h4, h5, by rw [h6.cell]; simp, h6.frozen _⟩
theorem Wt.shape {t : TypeId} {B E : Nat} {w : World} {v : Value} {n : Nat} (h : Wt t B E w v n) : ∃ o c, v = .slice o n c := by
  rcases h.2 with ⟨h1, rfl⟩ | ⟨b, cap, cur, h1, _⟩
  · exact ⟨_, _, h1⟩
  · exact ⟨_, _, h1⟩
/-- All rows of a dictionary are of the call's own. -/
def DWt (ts ti : TypeId) (B E : Nat) (w : World) (a b : Nat → Value) (p q : Nat → Nat) : Prop := ∀ k, Wt ts B E w (a k) (p k) ∧ Wt ti B E w (b k) (q k)
theorem DWt.later {ts ti : TypeId} {B E : Nat} {w w' : World} {a b : Nat → Value} {p q : Nat → Nat} (h : DWt ts ti B E w a b p q) (g : Below w.heap.size w w') : DWt ts ti B E w' a b p q := fun k => ⟨(h k).1.later g, (h k).2.later g⟩
theorem DWt.set {ts ti : TypeId} {B E : Nat} {w : World} {a b : Nat → Value} {p q : Nat → Nat} (h : DWt ts ti B E w a b p q) (g i : Nat) (u : Value) : DWt ts ti B E (w.setCell ⟨g, i, none⟩ u) a b p q := fun k => ⟨(h k).1.set g i u, (h k).2.set g i u⟩
/-- What lies between. -/
abbrev btw (B E : Nat) : Nat → Prop := fun g => B ≤ g ∧ g < E
end Go.Proofs.Kit
namespace Go.Proofs.Ytmghbejbdkoehaa
open Go.RowKit Go.Proofs.Kit Go.Shelf

set_option maxRecDepth 100000 in
theorem none6_any (a b : Nat → Value) (T : Nat → List ByteArray) (S : Nat → List Int) (w : World) (h : DSl w a b T S) (r : Bool) (hr : r = true ↔ ∀ k, k < 5 → T k = [] ∧ S k = []) :
    Calls Try.prog 28 #[.agg (dcs a b)] w fun e w' => e = .returned (.bool r) ∧ Below w.heap.size w w' := by
  obtain ⟨sa, sb⟩ : (∀ k, ∃ o m c, a k = .slice o m c) ∧ ∀ k, ∃ o m c, b k = .slice o m c :=
    ⟨fun k => by obtain ⟨o, c, e, _⟩ := (h k).1.mshape; exact ⟨o, _, c, e⟩, fun k => by obtain ⟨o, c, e, _⟩ := (h k).2.mshape; exact ⟨o, _, c, e⟩⟩
  obtain ⟨X0, hX0⟩ : ∃ X0, X0 = w.alloc (.cells (dcs a b) 28) := ⟨_, rfl⟩
  have e0 : w.alloc (.cells #[a 0, b 0, a 1, b 1, a 2, b 2, a 3, b 3, a 4, b 4] 28) = X0 := hX0.symm
  have k0 : Blk X0 w.heap.size (dcs a b) 28 := by rw [hX0]; exact Blk.new _ _ _
  have g0 : Below w.heap.size w X0 := by rw [hX0]; exact (Gr.alloc _ _).below
  have f := same6_any a b (fun _ => nilV) (fun _ => nilV) T (fun _ => []) S (fun _ => []) X0 (h.later g0) (fun _ => ⟨Sl.nil _, Sl.nil _⟩) r hr
  obtain ⟨c0, c1, c2, c3, c4, c5, c6, c7, c8, c9⟩ := dcells k0
  simp only [dcs, nilV] at f ⊢
  have F := Lib.hid f
  have G0 := Lib.hid g0
  clear hX0 k0 g0 f h hr sa sb
  go_enter Try.func28, Try.ntmps28
  go_wp2_with (go_at_call 20; refine F.out.mono ?_; rintro e w2 ⟨rfl, h2⟩)
  go_ret
  exact ⟨rfl, G0.out.trans (h2.mono G0.out.size)⟩
set_option maxRecDepth 100000 in
set_option maxHeartbeats 4000000 in
theorem spoil6_any (B E : Nat) (a b : Nat → Value) (p q : Nat → Nat) (w : World) (h : DWt 9 3 B E w a b p q) (hE : E ≤ w.heap.size) :
    Calls Try.prog 29 #[.agg (dcs a b)] w fun e w' => e = .returned (.tuple #[]) ∧ ButR (btw B E) w w' := by
  have sa : ∀ k, ∃ o m c, a k = .slice o m c := fun k => by obtain ⟨o, c, e⟩ := (h k).1.shape; exact ⟨o, _, c, e⟩
  have sb : ∀ k, ∃ o m c, b k = .slice o m c := fun k => by obtain ⟨o, c, e⟩ := (h k).2.shape; exact ⟨o, _, c, e⟩
  have HIX := Lib.hid (index_kinds a b)
  obtain ⟨X0, hX0⟩ : ∃ X0, X0 = w.alloc (.cells (dcs a b) 28) := ⟨_, rfl⟩
  have e0 : w.alloc (.cells #[a 0, b 0, a 1, b 1, a 2, b 2, a 3, b 3, a 4, b 4] 28) = X0 := hX0.symm
  have k0 : Blk X0 w.heap.size (dcs a b) 28 := by rw [hX0]; exact Blk.new _ _ _
  have g0 : Below w.heap.size w X0 := by rw [hX0]; exact (Gr.alloc _ _).below
  have HD := Lib.hid (h.later g0)
  have HB := Lib.hid (ButR.of_below (R := btw B E) g0)
  obtain ⟨c0, c1, c2, c3, c4, c5, c6, c7, c8, c9⟩ := dcells k0
  simp only [dcs]
  clear hX0 k0 g0 h
  go_enter Try.func29, Try.ntmps29
  go_wp2
  clear c0 c1 c2 c3 c4 c5 c6 c7 c8 c9 e0
  go_loopw [3, 4, 5, 8] (fun _ _ _ i wr => ∃ j : Nat, j ≤ 5 ∧ i = .int .i64 (j : Int) ∧ Hid (DWt 9 3 B E wr a b p q) ∧ Hid (ButR (btw B E) w wr)) (fun _ _ _ i _ => 5 - (intOf i).toNat)
  case atStart => exact ⟨0, Nat.zero_le _, rfl, HD, HB⟩
  case round =>
    obtain ⟨j, hj, rfl, HDr, HBr⟩ := hrel
    obtain ⟨wr0, rfl⟩ : ∃ x : World, x = wr := ⟨_, rfl⟩
    by_cases hlt : j < 5
    · have hx := HIX.out j hlt
      obtain ⟨oa, ca, ea⟩ := (HDr.out j).1.shape
      obtain ⟨ob, cb, eb⟩ := (HDr.out j).2.shape
      obtain ⟨nT, hnT⟩ : ∃ n, n = p j := ⟨_, rfl⟩
      obtain ⟨nS, hnS⟩ : ∃ n, n = q j := ⟨_, rfl⟩
      have hT9 : nT ≤ 9223372036854775807 := by rw [hnT]; exact (HDr.out j).1.1
      have hS9 : nS ≤ 9223372036854775807 := by rw [hnS]; exact (HDr.out j).2.1
      rw [← hnT] at ea
      rw [← hnS] at eb
      rw [ea, eb] at hx
      have hlt' : (j : Int) < 5 := by omega
      obtain ⟨W2, hW2⟩ : ∃ W2, W2 = wr0.alloc (.cells #[.slice oa nT ca, .slice ob nS cb] 25) := ⟨_, rfl⟩
      have g2 : Below wr0.heap.size wr0 W2 := by rw [hW2]; exact (Gr.alloc _ _).below
      have kt : Blk W2 wr0.heap.size #[.slice oa nT ca, .slice ob nS cb] 25 := by rw [hW2]; exact Blk.new _ _ _
      have e2 := hW2.symm
      have hEr : E ≤ wr0.heap.size := Nat.le_trans hE HBr.out.size
      have HD2 := Lib.hid (HDr.out.later g2)
      have HB2 := Lib.hid (HBr.out.later g2)
      have KT := Lib.hid kt
      have HNT := Lib.hid hnT
      have HNS := Lib.hid hnS
      clear hnT hnS hW2 g2 kt HDr HBr HD HB
      have t0 := KT.out.cell 0
      have t1 := KT.out.cell 1
      simp only [List.getElem?_toArray, List.getElem?_cons_zero, List.getElem?_cons_succ] at t0 t1
      go_upto_block 2 with fail
      clear t0 t1
      go_cut [14] (fun _ wx => Hid (DWt 9 3 B E wx a b p q) ∧ Hid (ButR (btw B E) w wx) ∧ Hid (Blk wx wr0.heap.size #[.slice oa nT ca, .slice ob nS cb] 25))
      case first =>
        go_wp2
        go_loopw [4, 14] (fun _ i wz => ∃ m : Nat, m ≤ nT ∧ i = .int .i64 (m : Int) ∧ Hid (DWt 9 3 B E wz a b p q) ∧ Hid (ButR (btw B E) w wz) ∧ Hid (Blk wz wr0.heap.size #[.slice oa nT ca, .slice ob nS cb] 25)) (fun _ i _ => nT - (intOf i).toNat)
        case atStart => exact ⟨0, Nat.zero_le _, rfl, HD2, HB2, KT⟩
        case round =>
          obtain ⟨m, hm, rfl, HDz, HBz, KZ⟩ := hrel
          have t0 := KZ.out.cell 0
          have t1 := KZ.out.cell 1
          simp only [List.getElem?_toArray, List.getElem?_cons_zero, List.getElem?_cons_succ] at t0 t1
          by_cases hmn : m < nT
          · obtain ⟨g, cap, x, eg, hg1, hg2, hc, hf⟩ := (HDz.out j).1.at (i := m) (by have := HNT.out; omega)
            rw [ea] at eg
            injection eg with e1 e3 e4
            subst e1
            have hmn' : (m : Int) < (nT : Int) := by omega
            have HG1 := Lib.hid hg1
            have HG2 := Lib.hid hg2
            clear e3 e4 hg1 hg2
            go_wp2
            go_roundw
            case rel => exact ⟨m + 1, by omega, by go_num, Lib.hid (HDz.out.set _ _ _), Lib.hid (HBz.out.set _ _ (fun _ => ⟨HG1.out, HG2.out⟩)), Lib.hid (KZ.out.other (by have := HG2.out; simp only; omega) _)⟩
            case measure => simp [intOf]; omega
          · go_wp2
            go_meet
            exact ⟨HDz, HBz, KZ⟩
      case rest =>
        obtain ⟨HD3, HB3, KT3⟩ := hcut
        clear HD2 HB2 KT e2
        have HD2 := HD3
        have HB2 := HB3
        have KT := KT3
        have t0 := KT.out.cell 0
        have t1 := KT.out.cell 1
        simp only [List.getElem?_toArray, List.getElem?_cons_zero, List.getElem?_cons_succ] at t0 t1
        clear HD3 HB3 KT3
        go_wp2
        clear t0 t1
        go_loopw [5, 25] (fun _ i wz => ∃ m : Nat, m ≤ nS ∧ i = .int .i64 (m : Int) ∧ Hid (DWt 9 3 B E wz a b p q) ∧ Hid (ButR (btw B E) w wz) ∧ Hid (Blk wz wr0.heap.size #[.slice oa nT ca, .slice ob nS cb] 25)) (fun _ i _ => nS - (intOf i).toNat)
        case atStart => exact ⟨0, Nat.zero_le _, rfl, HD2, HB2, KT⟩
        case round =>
          obtain ⟨m, hm, rfl, HDz, HBz, KZ⟩ := hrel
          have t0 := KZ.out.cell 0
          have t1 := KZ.out.cell 1
          simp only [List.getElem?_toArray, List.getElem?_cons_zero, List.getElem?_cons_succ] at t0 t1
          by_cases hmn : m < nS
          · obtain ⟨g, cap, x, eg, hg1, hg2, hc, hf⟩ := (HDz.out j).2.at (i := m) (by have := HNS.out; omega)
            rw [eb] at eg
            injection eg with e1 e3 e4
            subst e1
            have hmn' : (m : Int) < (nS : Int) := by omega
            have HG1 := Lib.hid hg1
            have HG2 := Lib.hid hg2
            clear e3 e4 hg1 hg2
            go_wp2
            go_roundw
            case rel => exact ⟨m + 1, by omega, by go_num, Lib.hid (HDz.out.set _ _ _), Lib.hid (HBz.out.set _ _ (fun _ => ⟨HG1.out, HG2.out⟩)), Lib.hid (KZ.out.other (by have := HG2.out; simp only; omega) _)⟩
            case measure => simp [intOf]; omega
          · go_wp2
            go_roundw
            case rel => exact ⟨j + 1, by omega, by go_num, HDz, HBz⟩
            case measure => simp [intOf]; omega
    · have hlt' : ¬ (j : Int) < 5 := by omega
      go_wp2
      refine bodyPost_end (results_none rfl _ _ _) rfl ?_
      exact ⟨rfl, HBr.out⟩
end Go.Proofs.Ytmghbejbdkoehaa

