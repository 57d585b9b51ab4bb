/- The reference's Of and Same. -/
import Derived.Test.YtmghbejbdkoehaaK21
import Derived.Test.YtmghbejbdkoehaaK7
namespace Go.Proofs.Kit
open Go.RowKit
/-- The cells of five rows. -/
def nms (a : Nat → Value) : Array Value := #[a 0, a 1, a 2, a 3, a 4]
theorem nms_get (a : Nat → Value) {k : Nat} (h : k < 5) : (nms a)[k]? = some (a k) := by
  rcases five h with rfl | rfl | rfl | rfl | rfl <;> rfl
theorem nms_set (a : Nat → Value) {k : Nat} (h : k < 5) (x : Value) : (nms a).setIfInBounds k x = nms (upd a k x) := by
  rcases five h with rfl | rfl | rfl | rfl | rfl <;> rfl
theorem ncells {w : World} {g : Nat} {a : Nat → Value} {t : TypeId} (h : Blk w g (nms a) t) : w.cell? ⟨g, 0, none⟩ = some (a 0) ∧ w.cell? ⟨g, 1, none⟩ = some (a 1) ∧ w.cell? ⟨g, 2, none⟩ = some (a 2) ∧ w.cell? ⟨g, 3, none⟩ = some (a 3) ∧ w.cell? ⟨g, 4, none⟩ = some (a 4) :=
  ⟨h.cell 0, h.cell 1, h.cell 2, h.cell 3, h.cell 4⟩
/-- Five cells written. -/
def nsets (w : World) (g : Nat) (x : Nat → Value) : World := ((((w.setCell ⟨g, 0, none⟩ (x 0)).setCell ⟨g, 1, none⟩ (x 1)).setCell ⟨g, 2, none⟩ (x 2)).setCell ⟨g, 3, none⟩ (x 3)).setCell ⟨g, 4, none⟩ (x 4)
theorem nsets_blk {w : World} {g : Nat} {a : Nat → Value} {t : TypeId} (h : Blk w g (nms a) t) (x : Nat → Value) : Blk (nsets w g x) g (nms x) t := by
  have h5 := ((((h.set 0 (x 0)).set 1 (x 1)).set 2 (x 2)).set 3 (x 3)).set 4 (x 4)
  have e : ((((((nms a).setIfInBounds 0 (x 0)).setIfInBounds 1 (x 1)).setIfInBounds 2 (x 2)).setIfInBounds 3 (x 3)).setIfInBounds 4 (x 4)) = nms x := by simp [nms]
  rw [e] at h5
  exact h5
theorem nsets_below {B : Nat} {w0 w : World} {g : Nat} (h : Below B w0 w) (hg : B ≤ g) (x : Nat → Value) : Below B w0 (nsets w g x) :=
  ((((h.setCell (by simpa using hg) _).setCell (by simpa using hg) _).setCell (by simpa using hg) _).setCell (by simpa using hg) _).setCell (by simpa using hg) _
/-- What lies while the names are gathered. -/
structure NJ (tD tN : TypeId) (w : World) (a b : Nat → Value) (A : Nat → Value) (j : Nat) (W : World) : Prop where
  k0 : Blk W w.heap.size (dcs a b) tD
  k1 : Blk W (w.heap.size + 1) (nms fun _ => nilV) tN
  k2 : Blk W (w.heap.size + 2) (nms A) tN
  done : ∀ k, k < j → A k = a k
  sl : ∀ k, ∃ o m c, A k = .slice o m c
  low : Below w.heap.size w W
section
variable {tD tN tT : TypeId} {w W : World} {a b A : Nat → Value} {j : Nat}
theorem NJ.step (h : NJ tD tN w a b A j W) (hj : j < 5) (o : Option Addr) (m c : Nat) (ha : a j = .slice o m c) (x : Obj) : NJ tD tN w a b (upd A j (.slice o m c)) (j + 1) ((W.setCell ⟨w.heap.size + 2, j, none⟩ (.slice o m c)).alloc x) := by
  have k2 := h.k2.set j (.slice o m c)
  rw [nms_set _ hj] at k2
  have hl := h.low.setCell (p := ⟨w.heap.size + 2, j, none⟩) (by simp) (.slice o m c)
  refine ⟨(h.k0.other (by simp) _).alloc _, (h.k1.other (by simp) _).alloc _, k2.alloc _, fun k hk => ?_, fun k => ?_, hl.alloc hl.size _⟩
  · by_cases e : k = j
    · subst e; simp [ha]
    · rw [upd_ne _ _ e]; exact h.done k (by omega)
  · by_cases e : k = j
    · subst e; simp
    · rw [upd_ne _ _ e]; exact h.sl k
end
end Go.Proofs.Kit
namespace Go.Proofs.Ytmghbejbdkoehaa
open Go.RowKit Go.Proofs.Kit Go.Shelf

set_option maxRecDepth 100000 in
set_option maxHeartbeats 2000000 in
theorem eof_any (a b : Nat → Value) (ha : ∀ k, ∃ o m c, a k = .slice o m c) (hb : ∀ k, ∃ o m c, b k = .slice o m c) (w : World) :
    Calls Try.prog 16 #[.agg (dcs a b)] w fun e w' => e = .returned (.agg (nms a)) ∧ Below w.heap.size w w' := by
  have HIX := Lib.hid (index_kinds a b)
  simp only [dcs]
  obtain ⟨W1, hW1⟩ : ∃ W1, W1 = ((w.alloc (.cells (dcs a b) 28)).alloc (.cells (nms fun _ => nilV) 37)).alloc (.cells (nms fun _ => nilV) 37) := ⟨_, rfl⟩
  have e1 : ((w.alloc (.cells #[a 0, b 0, a 1, b 1, a 2, b 2, a 3, b 3, a 4, b 4] 28)).alloc (.cells #[.slice none 0 0, .slice none 0 0, .slice none 0 0, .slice none 0 0, .slice none 0 0] 37)).alloc (.cells #[.slice none 0 0, .slice none 0 0, .slice none 0 0, .slice none 0 0, .slice none 0 0] 37) = W1 := by rw [hW1]; rfl
  have J0 : NJ 28 37 w a b (fun _ => nilV) 0 W1 := by
    refine ⟨?_, ?_, ?_, fun k hk => by omega, fun _ => ⟨_, _, _, rfl⟩, ?_⟩ <;> rw [hW1]
    · exact ((Blk.new w _ _).alloc _).alloc _
    · have := (Blk.new (w.alloc (.cells (dcs a b) 28)) (nms fun _ => nilV) 37).alloc (.cells (nms fun _ => nilV) 37); simpa using this
    · have := Blk.new ((w.alloc (.cells (dcs a b) 28)).alloc (.cells (nms fun _ => nilV) 37)) (nms fun _ => nilV) 37; simpa using this
    · exact ((Gr.alloc _ _).trans ((Gr.alloc _ _).trans (Gr.alloc _ _))).below
  clear hW1
  obtain ⟨c0, c1, c2, c3, c4, c5, c6, c7, c8, c9⟩ := dcells J0.k0
  have HJ0 := Lib.hid J0
  clear J0
  go_enter Try.func16, Try.ntmps16
  go_wp2
  clear c0 c1 c2 c3 c4 c5 c6 c7 c8 c9 e1
  go_loopw [4, 5, 8] (fun _ _ i wr => ∃ (j : Nat) (A : Nat → Value), j ≤ 5 ∧ i = .int .i64 (j : Int) ∧ Hid (NJ 28 37 w a b A j wr)) (fun _ _ i _ => 5 - (intOf i).toNat)
  case atStart => exact ⟨0, _, by omega, rfl, HJ0⟩
  case round =>
    obtain ⟨j, A, hj, rfl, HJ⟩ := hrel
    clear HJ0
    by_cases hlt : j < 5
    · have hx := HIX.out j hlt
      obtain ⟨oa, ma, ca, ea⟩ := ha j
      obtain ⟨ob, mb, cb, eb⟩ := hb j
      rw [ea, eb] at hx
      have hlt' : (j : Int) < 5 := by omega
      have HN := Lib.hid (fun x => HJ.out.step hlt oa ma ca ea x)
      have k2 := (HJ.out.k2.alloc (.cells #[.slice oa ma ca, .slice ob mb cb] 25))
      have c0 := (k2.cell j).trans (nms_get A hlt)
      have z0 := k2.frozen j
      have l0 := k2.lt
      obtain ⟨oA, mA, cA, eA⟩ := HJ.out.sl j
      rw [eA] at c0
      have hlow : w.heap.size + 2 < wr.heap.size := HJ.out.k2.lt
      have hne : wr.heap.size ≠ w.heap.size + 2 := by omega
      clear k2 HJ ea eb
      go_wp2
      go_roundw
      case rel => exact ⟨j + 1, _, by omega, by go_num, Lib.hid (HN.out _)⟩
      case measure => simp [intOf]; omega
    · obtain rfl : j = 5 := by omega
      have hsa := fun k w p m => st_slice (P := Try.prog) HJ.out.sl k w p m
      have eAa : nms A = nms a := by
        simp [nms, HJ.out.done 0 (by decide), HJ.out.done 1 (by decide), HJ.out.done 2 (by decide), HJ.out.done 3 (by decide), HJ.out.done 4 (by decide)]
      have k1 := HJ.out.k1
      obtain ⟨c0, c1, c2, c3, c4⟩ := ncells HJ.out.k2
      obtain ⟨d0, d1, d2, d3, d4⟩ := ncells k1
      have z1 := k1.frozen
      have l1 := k1.lt
      have kR := nsets_blk k1 A
      obtain ⟨r0, r1, r2, r3, r4⟩ := ncells kR
      unfold nsets at r0 r1 r2 r3 r4
      have HR := Lib.hid (nsets_below HJ.out.low (g := w.heap.size + 1) (by omega) A)
      have HE := Lib.hid eAa
      clear HJ k1 kR eAa ha hb
      go_wp2
      exact bodyPost_ret (v := .agg (nms A)) (by simp [results, Try.results16, go_sem, r0, r1, r2, r3, r4, nms]) rfl ⟨by rw [HE.out], HR.out⟩

theorem infoStrs : ∃ i, Try.prog.info? 22 = some i ∧ i.size = 1 := by
  have h : (Try.prog.info? 22).map (·.size) = some 1 := by kernel_rfl
  cases hi : Try.prog.info? 22 with
  | none => rw [hi] at h; cases h
  | some i => exact ⟨i, rfl, by rw [hi] at h; simpa using h⟩
set_option maxRecDepth 100000 in
set_option maxHeartbeats 2000000 in
theorem esame_any (a c : Nat → Value) (T T' : Nat → List ByteArray) (w : World) (hT : ∀ k, Sl w (a k) ((T k).map .string)) (hT' : ∀ k, Sl w (c k) ((T' k).map .string)) (r : Bool) (hr : r = true ↔ ∀ k, k < 5 → T k = T' k) :
    Calls Try.prog 15 #[.agg (nms a), .agg (nms c)] w fun e w' => e = .returned (.bool r) ∧ Below w.heap.size w w' := by
  have HT := Lib.hid hT
  have HT' := Lib.hid hT'
  have HR := Lib.hid hr
  have ha : ∀ k, ∃ o m c, a k = .slice o m c := fun k => by obtain ⟨o, c, e, _⟩ := (hT k).mshape; exact ⟨o, _, c, e⟩
  have hc : ∀ k, ∃ o m x, c k = .slice o m x := fun k => by obtain ⟨o, c, e, _⟩ := (hT' k).mshape; exact ⟨o, _, c, e⟩
  have HIX : Hid (∀ j : Nat, j < 5 → ∀ w, (Instr.index 37 (.agg #[a 0, a 1, a 2, a 3, a 4]) (.int .i64 (j : Int))).run Try.prog w = .ok (a j) w) := Lib.hid fun j hj w => by
    obtain ⟨i, hi, hs⟩ := infoStrs
    exact run_index_plain (nms a) j (a j) w Try.underlying37 Try.underlying22 hi hs hj (nms_get a hj)
  clear hT hT' hr
  simp only [nms]
  obtain ⟨W1, hW1⟩ : ∃ W1, W1 = (w.alloc (.cells (nms a) 37)).alloc (.cells (nms c) 37) := ⟨_, rfl⟩
  have e1 : (w.alloc (.cells #[a 0, a 1, a 2, a 3, a 4] 37)).alloc (.cells #[c 0, c 1, c 2, c 3, c 4] 37) = W1 := by rw [hW1]; rfl
  have k0 : Blk W1 w.heap.size (nms a) 37 := by rw [hW1]; exact (Blk.new w _ _).alloc _
  have k1 : Blk W1 (w.heap.size + 1) (nms c) 37 := by rw [hW1]; have := Blk.new (w.alloc (.cells (nms a) 37)) (nms c) 37; simpa using this
  have g1 : Gr w W1 := by rw [hW1]; exact (Gr.alloc _ _).trans (Gr.alloc _ _)
  clear hW1
  obtain ⟨c0, c1, c2, c3, c4⟩ := ncells k0
  have K1 := Lib.hid k1
  have G1 := Lib.hid g1
  clear k0 k1 g1
  go_enter Try.func15, Try.ntmps15
  go_wp2
  clear c0 c1 c2 c3 c4 e1
  go_loopw [5, 6, 8] (fun _ _ i wr => ∃ j : Nat, j ≤ 5 ∧ i = .int .i64 (j : Int) ∧ Gr W1 wr ∧ Hid (∀ k, k < j → T k = T' k)) (fun _ _ i _ => 5 - (intOf i).toNat)
  case atStart => exact ⟨0, by omega, rfl, Gr.refl _, Lib.hid fun k h => by omega⟩
  case round =>
    obtain ⟨j, hj, rfl, hG, hall⟩ := hrel
    by_cases hlt : j < 5
    · have hx := HIX.out j hlt
      obtain ⟨oa, ma, ca, ea⟩ := ha j
      obtain ⟨oc, mc, cc, ec⟩ := hc j
      have g2 := G1.out.trans hG
      have c0 := ((K1.out.gr hG).cell j).trans (nms_get c hlt)
      have HS := Lib.hid (rsame_sl _ _ (T j) (T' j) wr ((HT.out j).gr g2) ((HT'.out j).gr g2))
      rw [ea] at hx HS
      rw [ec] at c0 HS
      have hlt' : (j : Int) < 5 := by omega
      clear ea ec ha hc
      go_wp2_with fail
      refine HS.out.mono ?_
      rintro e w2 ⟨rfl, h2⟩
      have hG2 := hG.trans (Gr.of_dr h2)
      by_cases hTT : T j = T' j
      · rw [decide_eq_true hTT]
        have HTT := Lib.hid hTT
        clear hTT HS h2
        go_wp2
        go_roundw
        case rel =>
          refine ⟨j + 1, by omega, by go_num, hG2, Lib.hid fun k hk => ?_⟩
          by_cases hkj : k < j
          · exact hall.out k hkj
          · obtain rfl : k = j := by omega
            exact HTT.out
        case measure => simp [intOf]; omega
      · rw [decide_eq_false hTT]
        obtain rfl := bF HR.out (fun e => hTT (e j hlt))
        clear hTT HS h2
        go_wp2
        go_ret
        exact ⟨rfl, (G1.out.trans hG2).below⟩
    · obtain rfl : j = 5 := by omega
      obtain rfl := bT HR.out hall.out
      go_wp2
      go_ret
      exact ⟨rfl, (G1.out.trans hG).below⟩
end Go.Proofs.Ytmghbejbdkoehaa

