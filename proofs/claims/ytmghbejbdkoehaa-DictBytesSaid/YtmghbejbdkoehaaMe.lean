import Derived.Test.YtmghbejbdkoehaaK1
import Derived.Test.YtmghbejbdkoehaaMd
import Derived.Test.YtmghbejbdkoehaaJ6
import Derived.Test.YtmghbejbdkoehaaJ7
/- dict.Check. -/
namespace Go.Proofs.Kit
open Go.RowKit
/-- What each kind's table must be. -/
def KGood (hs : ByteArray → Nat) (T : Nat → List ByteArray) (S : Nat → List Int) (k : Nat) : Prop := Good hs (T k) (S k) ∧ (T k).length ≤ 128 ∧ ∀ s ∈ T k, mayB (k : Int) s = true
theorem dgood_iff {hs : ByteArray → Nat} {T : Nat → List ByteArray} {S : Nat → List Int} : DGood hs T S ↔ ∀ k, k < 5 → KGood hs T S k :=
  ⟨fun h k hk => ⟨h.good k hk, h.few k hk, h.may k hk⟩, fun h => ⟨fun k hk => (h k hk).1, fun k hk => (h k hk).2.1, fun k hk => (h k hk).2.2⟩⟩
/-- What lies while a dictionary's tables are gone over. -/
structure DI (tD tE : TypeId) (w : World) (b0 bx : Nat) (a b : Nat → Value) (e : Value) (W : World) : Prop where
  k0 : Blk W w.heap.size (dcs a b) tD
  k1 : Blk W b0 #[e] tE
  kx : Blk W bx (dcs a b) tD
  low : Below w.heap.size w W
  h0 : w.heap.size ≤ b0
section
variable {tD tE : TypeId} {w : World} {b0 bx : Nat} {a b : Nat → Value} {e : Value} {W W' : World}
theorem DI.aside {D : Nat} (h : DI tD tE w b0 bx a b e W) (ha : Aside D W W') (hD : w.heap.size ≤ D) : DI tD tE w b0 bx a b e W' :=
  ⟨ha.blk h.k0, ha.blk h.k1, ha.blk h.kx, ha.below h.low hD (Nat.le_refl _), h.h0⟩
theorem DI.later (h : DI tD tE w b0 bx a b e W) (g : Below W.heap.size W W') : DI tD tE w b0 bx a b e W' := ⟨h.k0.later g, h.k1.later g, h.kx.later g, h.low.trans (g.mono h.low.size), h.h0⟩
theorem DI.set (h : DI tD tE w b0 bx a b e W) (h1 : w.heap.size ≠ b0) (h2 : bx ≠ b0) (x : Value) : DI tD tE w b0 bx a b x (W.setCell ⟨b0, 0, none⟩ x) :=
  ⟨h.k0.other h1 _, h.k1.set 0 _, h.kx.other h2 _, h.low.setCell h.h0 _, h.h0⟩
end
end Go.Proofs.Kit
namespace Go.Proofs.Ytmghbejbdkoehaa
open Go.RowKit Go.Proofs.Kit Go.Shelf
attribute [local go_sem] Oper.semAt_some

set_option maxRecDepth 100000 in
set_option maxHeartbeats 4000000 in
theorem dcheck_in (a b : Nat → Value) (T : Nat → List ByteArray) (S : Nat → List Int) (w : World) (h : DSl w a b T S) (hL : DLim T S) (r : Int) (hr : (DGood hsh T S ∧ r = 0) ∨ (¬ DGood hsh T S ∧ r = 160)) :
    CallsIn Fence.wide 6 Try.prog 13 #[.agg (dcs a b)] w fun e w' => e = .returned (.int .i64 r) ∧ Below w.heap.size w w' := by
  have HS := Lib.hid h
  have HL := Lib.hid hL
  have HR := Lib.hid hr
  have ha : ∀ k, ∃ o m c, a k = .slice o m c := fun k => by obtain ⟨o, c, e, _⟩ := (h k).1.mshape; exact ⟨o, _, c, e⟩
  have hb : ∀ k, ∃ o m c, b k = .slice o m c := fun k => by obtain ⟨o, c, e, _⟩ := (h k).2.mshape; exact ⟨o, _, c, e⟩
  have HT1 := Lib.hid (fun bx => tables1_in 5 (by decide) bx a b ha hb)
  clear h hL hr ha hb
  simp only [dcs]
  refine callsIn_of_wp_marks Try.func13 rfl trivial ?_ rfl
  simp only [Try.ntmps13, List.size_toArray, List.length_cons, List.length_nil, Nat.reduceAdd, Nat.reduceSub, Array.replicate_succ, Array.replicate_zero, List.push_toArray, List.append_toArray, List.nil_append, List.cons_append]
  refine wpIn_wide.2 ?_
  go_wp2
  go_step3
  go_wp2
  go_step3
  go_wp2_with (go_at_call 40; refine (tables_any a b _).mono ?_; rintro e w' ⟨rfl, rfl⟩)
  rename_i K hK
  obtain ⟨W0, hW0⟩ : ∃ W0, W0 = (((w.alloc (.cells (dcs a b) 28)).alloc (.cells #[.int .i64 0] 32)).alloc (.cells (dcs a b) 28)) := ⟨_, rfl⟩
  have I0 : DI 28 32 w (w.heap.size + 1) (w.heap.size + 2) a b (.int .i64 0) W0 := by
    refine ⟨?_, ?_, ?_, ?_, by omega⟩ <;> rw [hW0]
    · exact ((Blk.new w _ _).alloc _).alloc _
    · have := (Blk.new (w.alloc (.cells (dcs a b) 28)) #[.int .i64 0] 32).alloc (.cells (dcs a b) 28); simpa using this
    · have := Blk.new ((w.alloc (.cells (dcs a b) 28)).alloc (.cells #[.int .i64 0] 32)) (dcs a b) 28; simpa using this
    · exact ((Gr.alloc _ _).trans ((Gr.alloc _ _).trans (Gr.alloc _ _))).below
  have e0 : (((w.alloc (.cells #[a 0, b 0, a 1, b 1, a 2, b 2, a 3, b 3, a 4, b 4] 28)).alloc (.cells #[.int .i64 0] 32)).alloc (.cells (dcs a b) 28)) = W0 := by rw [hW0]; rfl
  rw [e0]
  clear e0 hW0
  have hseq := HT1.out (w.heap.size + 2)
  have HI0 := Lib.hid I0
  have hw1 : w.heap.size ≤ W0.heap.size := I0.low.size
  clear I0 HT1
  refine (wpIn_wide (n := 6)).1 ?_
  refine rangeH (α := Nat) rfl (by decide) (gf := 63) (lb := #[.pointer (some ⟨w.heap.size + 2, 0, none⟩)]) rfl trivial (enters_of Try.func63 (by kernel_rfl) rfl) hseq (fun _ => rfl)
    (fun pre W => DI 28 32 w (w.heap.size + 1) (w.heap.size + 2) a b (.int .i64 0) W ∧ ∀ k, k < pre.length → KGood hsh T S k)
    (fun c pre W => c = .exit 0 ∧ DI 28 32 w (w.heap.size + 1) (w.heap.size + 2) a b (.int .i64 160) W ∧ ¬ DGood hsh T S)
    (fun pre X X' h ha => ⟨h.1.aside ha hw1, h.2⟩) (fun c pre X X' h ha => ⟨h.1, h.2.1.aside ha hw1, h.2.2⟩) (fun pre X h => h.1.kx) (fun pre X X' h hb => ⟨h.1.later hb, h.2⟩) ⟨HI0.out, by simp⟩
    (fun x r => { tmps := #[.agg #[a 0, b 0, a 1, b 1, a 2, b 2, a 3, b 3, a 4, b 4], .pointer (some ⟨w.heap.size, 0, none⟩), .int .i64 0, .pointer (some ⟨w.heap.size + 1, 0, none⟩), .int .i64 (x : Int), .pointer (some ⟨r, 0, none⟩), undef, undef, .agg #[a 0, b 0, a 1, b 1, a 2, b 2, a 3, b 3, a 4, b 4], .func (.func 63) #[] #[.pointer (some ⟨w.heap.size + 1 + 1, 0, none⟩)], .int .i64 (x : Int), .agg #[a x, b x], undef, undef, undef, undef, undef, undef, undef, undef, undef, undef, undef, undef, undef, undef, undef, undef, undef, undef, undef, undef, undef, undef], defers := [] })
    (fun x r W => Blk W r #[a x, b x] 25) (fun x r X X' h ha => ha.blk h) ?assign ?body ?done ?stop
  case assign =>
    intro l x W K hK
    obtain ⟨oa, ca, ea, _⟩ := (HS.out x).1.mshape
    obtain ⟨ob, cb, eb, _⟩ := (HS.out x).2.mshape
    simp only [ea, eb] at hK ⊢
    gi_wp2
    exact hK _ _ (Gr.alloc _ _).below (Nat.le_refl _) (Blk.new _ _ _)
  case body =>
    rintro lp pre k r W ⟨hI, hall⟩ hlen ⟨rfl, hk⟩ hn hR
    simp only [List.length_range] at hall
    obtain ⟨oa, ca, ea, _, _, aa⟩ := (HS.out k).1.mshape
    obtain ⟨ob, cb, eb, _⟩ := (HS.out k).2.mshape
    have hT := (HS.out k).1
    have hS := (HS.out k).2
    have hL1 := HL.out.t k
    have hL2 := HL.out.s k
    have hZ := HL.out.z k
    rw [ea] at hT
    rw [eb] at hS
    simp only [ea, eb] at hR ⊢
    obtain ⟨n, hnn⟩ : ∃ n, n = (T k).length := ⟨_, rfl⟩
    rw [← hnn] at hL1 hT hR ⊢
    have c0 := hR.cell 0
    have c1 := hR.cell 1
    have e1 := hI.k1.cell 0
    have f1 := hI.k1.frozen 0
    have l1 := hI.k1.lt
    simp only [List.getElem?_toArray, List.getElem?_cons_zero, List.getElem?_cons_succ] at c0 c1 e1
    have hne := hn.blk hI.k1
    -- what is wrong is told
    have bad : ∀ X, Below W.heap.size W X → ¬ KGood hsh T S k → Keep2 W0.heap.size W (X.setCell ⟨w.heap.size + 1, 0, none⟩ (.int .i64 160)) ∧ (DI 28 32 w (w.heap.size + 1) (w.heap.size + 2) a b (.int .i64 160) (X.setCell ⟨w.heap.size + 1, 0, none⟩ (.int .i64 160)) ∧ ¬ DGood hsh T S) := fun X g hb =>
      ⟨(Keep2.of_below g hn).setCell hne.1 hne.2 _, (hI.later g).set (by omega) (by omega) _, fun e => hb (dgood_iff.1 e k hk)⟩
    have BAD := Lib.hid bad
    have HI := Lib.hid hI
    have HALL := Lib.hid hall
    have HN := Lib.hid hn
    have HRR := Lib.hid hR
    have HT := Lib.hid hT
    have HSS := Lib.hid hS
    have HZ := Lib.hid hZ
    have HNN := Lib.hid hnn
    clear bad hI hall hn hT hS hZ hnn hlen hne hR
    by_cases h128 : 128 < n
    · have g1 : decide ((128 : Int) < (n : Int)) = true := by simp; omega
      have hb : ¬ KGood hsh T S k := fun e => by have := e.2.1; rw [← HNN.out] at this; omega
      have HB := Lib.hid hb
      clear hb
      gi_wp2_with fail
      refine ⟨trivial, ?_⟩
      gi_wp2_with fail
      have hx := BAD.out _ (Below.refl _ _) HB.out
      exact ⟨hx.1, rfl, hx.2⟩
    · have g1 : decide ((128 : Int) < (n : Int)) = false := by simp; omega
      obtain ⟨rc, hrc⟩ := ckd_ex (T k) (S k)
      have HCK := Lib.hid (check_any _ _ (T k) (S k) W ((HT.out).later (HI.out.low)) (HSS.out.later HI.out.low) (by omega) (by have := HNN.out; omega) HZ.out rc hrc)
      gi_wp2_with fail
      refine ⟨trivial, (CallsIn.inRound lp (callsIn_wide.2 HCK.out)).mono ?_⟩
      rintro e W2 ⟨rfl, gr2⟩
      have g2 := gr2.below
      rcases hrc with ⟨hgd, rfl⟩ | ⟨hgd, rfl⟩
      · have I2 := HI.out.later g2
        have n2 := HN.out.below g2
        have k2 := Keep2.of_below g2 HN.out
        have r2 := HRR.out.later g2
        have c0 := r2.cell 0
        simp only [List.getElem?_toArray, List.getElem?_cons_zero] at c0
        have HG := Lib.hid hgd
        have HI2 := Lib.hid I2
        have HN2 := Lib.hid n2
        have HK2 := Lib.hid k2
        clear hgd I2 n2 k2 r2 c1 e1 f1 l1 HCK gr2
        gi_wp2_with fail
        gi_loopw [7, 24] (fun _ i wr => ∃ j : Nat, j ≤ n ∧ i = .int .i64 (j : Int) ∧ Below W2.heap.size W2 wr ∧ Hid (∀ s ∈ (T k).take j, mayB (k : Int) s = true)) (fun _ i _ => n - (intOf i).toNat)
        case atStart => exact ⟨0, Nat.zero_le _, rfl, Below.refl _ _, Lib.hid (by simp)⟩
        case round =>
          obtain ⟨j, hj, rfl, hB, hin⟩ := hrel
          by_cases hlt : j < n
          · have hjl : j < (T k).length := by have := HNN.out; omega
            obtain ⟨bT, fT, rfl, hbT, hcT⟩ := aa.resolve_left (fun e => by rw [e] at hjl; simp at hjl)
            have hB0 : Below w.heap.size w wr := (HI2.out.low).trans (hB.mono HI2.out.low.size)
            have d1 := (hB0.cell (p := ⟨bT, fT + j, none⟩) hbT).trans (hcT j hjl)
            have htk := List.take_succ_eq_append_getElem hjl
            have hz := HZ.out _ (List.getElem_mem hjl)
            have hmem := List.getElem_mem hjl
            obtain ⟨s, hs⟩ : ∃ s, s = (T k)[j] := ⟨_, rfl⟩
            rw [← hs] at d1 htk hz hmem
            have HTK := Lib.hid htk
            have HME := Lib.hid hmem
            have HB := Lib.hid hB
            clear hs hcT htk hmem hB hB0 hjl
            gi_wp2_with fail
            refine ⟨trivial, (CallsIn.inRound lp (callsIn_wide.2 (may_any (k : Int) s hz _))).mono ?_⟩
            rintro e w3 ⟨rfl, hb3⟩
            have HB3 := Lib.hid (HB.out.trans (hb3.mono HB.out.size))
            cases hm : mayB (k : Int) s
            · have hb : ¬ KGood hsh T S k := fun e => by have := e.2.2 s HME.out; rw [hm] at this; cases this
              have HBB := Lib.hid hb
              have I3 := HI2.out.later HB3.out
              have e1 := I3.k1.cell 0
              have f1 := I3.k1.frozen 0
              have l1 := I3.k1.lt
              simp only [List.getElem?_toArray, List.getElem?_cons_zero] at e1
              clear hb I3 hb3 hm
              gi_wp2_with fail
              have hx := BAD.out _ (g2.trans (HB3.out.mono g2.size)) HBB.out
              exact ⟨hx.1, rfl, hx.2⟩
            · have HM := Lib.hid hm
              clear hm hb3
              gi_wp2_with fail
              go_roundw
              case rel =>
                refine ⟨j + 1, by omega, by go_num, HB3.out, Lib.hid ?_⟩
                rw [HTK.out]
                intro x hx
                rcases List.mem_append.1 hx with hx | hx
                · exact hin.out x hx
                · obtain rfl : x = s := by simpa using hx
                  exact HM.out
              case measure => simp [intOf]; omega
          · gi_wp2_with fail
            have hfin : (T k).take j = T k := List.take_of_length_le (by have := HNN.out; omega)
            have h2 := hin.out
            rw [hfin] at h2
            refine ⟨HK2.out.trans (Keep2.of_below hB HN2.out), HI2.out.later hB, fun i hi => ?_⟩
            rw [range_snoc, List.length_range] at hi
            by_cases hik : i < k
            · exact HALL.out i hik
            · obtain rfl : i = k := by omega
              exact ⟨HG.out, by rw [← HNN.out]; omega, h2⟩
      · have hb : ¬ KGood hsh T S k := fun e => hgd e.1
        have HBB := Lib.hid hb
        have I3 := HI.out.later g2
        have e1 := I3.k1.cell 0
        have f1 := I3.k1.frozen 0
        have l1 := I3.k1.lt
        simp only [List.getElem?_toArray, List.getElem?_cons_zero] at e1
        clear hb I3 hgd HCK gr2
        gi_wp2_with fail
        have hx := BAD.out _ g2 HBB.out
        exact ⟨hx.1, rfl, hx.2⟩
  case done =>
    rintro D xs W rfl ⟨hI, hall⟩ hD hdef
    simp only [List.length_range] at hall
    have hg : DGood hsh T S := dgood_iff.2 hall
    obtain rfl : r = 0 := by
      rcases HR.out with ⟨_, h⟩ | ⟨h, _⟩
      · exact h
      · exact (h hg).elim
    have e1 := hI.k1.cell 0
    simp only [List.getElem?_toArray, List.getElem?_cons_zero] at e1
    have HI := Lib.hid hI
    have HD := Lib.hid hdef
    clear hI hall hg hdef hseq
    refine hK _ _ ?_
    go_wp2
    refine ⟨by simp, .inl ⟨_, _, rfl, run_takeDeferred (w := W) HD.out, ?_⟩⟩
    exact ⟨.int .i64 0, by simp [results, Try.results13, go_sem], rfl, HI.out.low.trans (below_put' _ _ (by omega))⟩
  case stop =>
    rintro D c pre W - ⟨rfl, hI, hno⟩ hD hdef
    obtain rfl : r = 160 := by
      rcases HR.out with ⟨h, _⟩ | ⟨_, h⟩
      · exact (hno h).elim
      · exact h
    have e1 := hI.k1.cell 0
    simp only [List.getElem?_toArray, List.getElem?_cons_zero] at e1
    have HI := Lib.hid hI
    have HD := Lib.hid hdef
    clear hI hno hdef hseq
    refine wpIn_wide.2 ?_
    go_wp2
    refine ⟨by simp, .inl ⟨_, _, rfl, run_takeDeferred (w := W) HD.out, ?_⟩⟩
    exact ⟨.int .i64 160, by simp [results, Try.results13, go_sem], rfl, HI.out.low.trans (below_put' _ _ (by omega))⟩
theorem dcheck_any (a b : Nat → Value) (T : Nat → List ByteArray) (S : Nat → List Int) (w : World) (h : DSl w a b T S) (hL : DLim T S) (r : Int) (hr : (DGood hsh T S ∧ r = 0) ∨ (¬ DGood hsh T S ∧ r = 160)) :
    Calls Try.prog 13 #[.agg (dcs a b)] w fun e w' => e = .returned (.int .i64 r) ∧ Below w.heap.size w w' := callsIn_wide.1 (dcheck_in a b T S w h hL r hr)
end Go.Proofs.Ytmghbejbdkoehaa


/- dict.tableOf, Id, Name, Names. -/
namespace Go.Proofs.Kit
open Go.RowKit
/-- A nil table. -/
def nilT : Value := .agg #[.slice none 0 0, .slice none 0 0]
/-- What tableOf answers. -/
def TabR (hs : ByteArray → Nat) (T : Nat → List ByteArray) (S : Nat → List Int) (a b : Nat → Value) (k : Int) (v : Value) (e : Int) : Prop :=
  (¬ DGood hs T S ∧ v = .agg #[.slice none 0 0, .slice none 0 0] ∧ e = 160) ∨ (DGood hs T S ∧ ¬ (0 ≤ k ∧ k < 5) ∧ v = .agg #[.slice none 0 0, .slice none 0 0] ∧ e = 2) ∨ (DGood hs T S ∧ ∃ n : Nat, n < 5 ∧ k = (n : Int) ∧ v = .agg #[a n, b n] ∧ e = 0)
theorem tabR_ex (hs : ByteArray → Nat) (T : Nat → List ByteArray) (S : Nat → List Int) (a b : Nat → Value) (k : Int) : ∃ v e, TabR hs T S a b k v e := by
  by_cases h : DGood hs T S
  · by_cases hk : 0 ≤ k ∧ k < 5
    · exact ⟨_, _, .inr (.inr ⟨h, k.toNat, by omega, by omega, rfl, rfl⟩)⟩
    · exact ⟨_, _, .inr (.inl ⟨h, hk, rfl, rfl⟩)⟩
  · exact ⟨_, _, .inl ⟨h, rfl, rfl⟩⟩
end Go.Proofs.Kit
namespace Go.Proofs.Ytmghbejbdkoehaa
open Go.RowKit Go.Proofs.Kit Go.Shelf

set_option maxRecDepth 100000 in
set_option maxHeartbeats 2000000 in
theorem tableOf_any (a b : Nat → Value) (T : Nat → List ByteArray) (S : Nat → List Int) (w : World) (h : DSl w a b T S) (hL : DLim T S) (k : Int) (v : Value) (e : Int) (hr : TabR hsh T S a b k v e) :
    Calls Try.prog 48 #[.agg (dcs a b), .int .i64 k] w fun en w' => en = .returned (.tuple #[v, .int .i64 e]) ∧ Below w.heap.size w w' := by
  have ha : ∀ k, ∃ o m c, a k = .slice o m c := fun k => by obtain ⟨o, c, e, _⟩ := (h k).1.mshape; exact ⟨o, _, c, e⟩
  have hb : ∀ k, ∃ o m c, b k = .slice o m c := fun k => by obtain ⟨o, c, e, _⟩ := (h k).2.mshape; exact ⟨o, _, c, e⟩
  have HS := Lib.hid h
  have HL := Lib.hid hL
  clear h hL
  simp only [dcs]
  obtain ⟨W1, hW1⟩ : ∃ W1, W1 = (w.alloc (.cells (dcs a b) 28)).alloc (.cells #[.slice none 0 0, .slice none 0 0] 25) := ⟨_, rfl⟩
  have e1 : (w.alloc (.cells #[a 0, b 0, a 1, b 1, a 2, b 2, a 3, b 3, a 4, b 4] 28)).alloc (.cells #[.slice none 0 0, .slice none 0 0] 25) = W1 := by rw [hW1]; rfl
  have k0 : Blk W1 w.heap.size (dcs a b) 28 := by rw [hW1]; exact (Blk.new w _ _).alloc _
  have k1 : Blk W1 (w.heap.size + 1) #[.slice none 0 0, .slice none 0 0] 25 := by
    rw [hW1]; have := Blk.new (w.alloc (.cells (dcs a b) 28)) #[.slice none 0 0, .slice none 0 0] 25; simpa using this
  have g1 : Gr w W1 := by rw [hW1]; exact (Gr.alloc _ _).trans (Gr.alloc _ _)
  clear hW1
  have c := k0.cell
  obtain ⟨c0, c1, c2, c3, c4, c5, c6, c7, c8, c9⟩ : W1.cell? ⟨w.heap.size, 0, none⟩ = some (a 0) ∧ W1.cell? ⟨w.heap.size, 1, none⟩ = some (b 0) ∧ W1.cell? ⟨w.heap.size, 2, none⟩ = some (a 1) ∧ W1.cell? ⟨w.heap.size, 3, none⟩ = some (b 1) ∧ W1.cell? ⟨w.heap.size, 4, none⟩ = some (a 2) ∧ W1.cell? ⟨w.heap.size, 5, none⟩ = some (b 2) ∧ W1.cell? ⟨w.heap.size, 6, none⟩ = some (a 3) ∧ W1.cell? ⟨w.heap.size, 7, none⟩ = some (b 3) ∧ W1.cell? ⟨w.heap.size, 8, none⟩ = some (a 4) ∧ W1.cell? ⟨w.heap.size, 9, none⟩ = some (b 4) :=
    ⟨c 0, c 1, c 2, c 3, c 4, c 5, c 6, c 7, c 8, c 9⟩
  have K0 := Lib.hid k0
  have K1 := Lib.hid k1
  have G1 := Lib.hid g1
  clear c k0 k1 g1
  obtain ⟨r, hck⟩ : ∃ r : Int, (DGood hsh T S ∧ r = 0) ∨ (¬ DGood hsh T S ∧ r = 160) := by
    by_cases hg : DGood hsh T S
    · exact ⟨0, .inl ⟨hg, rfl⟩⟩
    · exact ⟨160, .inr ⟨hg, rfl⟩⟩
  go_enter Try.func48, Try.ntmps48
  go_wp2_with fail
  refine (dcheck_any a b T S W1 (HS.out.gr G1.out) HL.out r hck).mono ?_
  rintro en W2 ⟨rfl, g2⟩
  have K12 := Lib.hid (K1.out.later g2)
  have K02 := Lib.hid (K0.out.later g2)
  have B2 := Lib.hid (G1.out.below.trans (g2.mono G1.out.below.size))
  have hl2 : w.heap.size + 1 < W2.heap.size := K12.out.lt
  clear e1 c0 c1 c2 c3 c4 c5 c6 c7 c8 c9 K0 K1 G1 HS HL g2
  obtain ⟨d0, d1, z0, z1⟩ : W2.cell? ⟨w.heap.size + 1, 0, none⟩ = some (.slice none 0 0) ∧ W2.cell? ⟨w.heap.size + 1, 1, none⟩ = some (.slice none 0 0) ∧ W2.frozen? ⟨w.heap.size + 1, 0, none⟩ = false ∧ W2.frozen? ⟨w.heap.size + 1, 1, none⟩ = false := ⟨K12.out.cell 0, K12.out.cell 1, K12.out.frozen 0, K12.out.frozen 1⟩
  have fin : ∀ x y : Value, Below w.heap.size w ((W2.setCell ⟨w.heap.size + 1, 0, none⟩ x).setCell ⟨w.heap.size + 1, 1, none⟩ y) ∧ Blk ((W2.setCell ⟨w.heap.size + 1, 0, none⟩ x).setCell ⟨w.heap.size + 1, 1, none⟩ y) (w.heap.size + 1) #[x, y] 25 := fun x y =>
    ⟨(B2.out.setCell (by simp) _).setCell (by simp) _, by have := (K12.out.set 0 x).set 1 y; simpa using this⟩
  have FIN := Lib.hid fin
  clear fin
  rcases hr with ⟨hg, rfl, rfl⟩ | ⟨hg, hk, rfl, rfl⟩ | ⟨hg, n, hn, rfl, rfl, rfl⟩
  · obtain rfl : r = 160 := by
      rcases hck with ⟨h, _⟩ | ⟨_, h⟩
      · exact (hg h).elim
      · exact h
    clear hck hg
    go_wp2
    have hb := FIN.out (.slice none 0 0) (.slice none 0 0)
    have C0 := hb.2.cell 0
    have C1 := hb.2.cell 1
    simp only [List.getElem?_toArray, List.getElem?_cons_zero, List.getElem?_cons_succ] at C0 C1
    exact bodyPost_ret (v := .tuple #[.agg #[.slice none 0 0, .slice none 0 0], .int .i64 160]) (by simp [results, Try.results48, go_sem, C0, C1]) rfl ⟨rfl, hb.1⟩
  · obtain rfl : r = 0 := by
      rcases hck with ⟨_, h⟩ | ⟨h, _⟩
      · exact h
      · exact (h hg).elim
    have hd : (decide (0 ≤ k) && decide (k < 5)) = false := by simpa using hk
    clear hck hg hk
    go_wp2_with fail
    refine (isKind_any _ _).mono ?_
    rintro e w' ⟨rfl, rfl⟩
    rw [hd]
    go_wp2
    have hb := FIN.out (.slice none 0 0) (.slice none 0 0)
    have C0 := hb.2.cell 0
    have C1 := hb.2.cell 1
    simp only [List.getElem?_toArray, List.getElem?_cons_zero, List.getElem?_cons_succ] at C0 C1
    exact bodyPost_ret (v := .tuple #[.agg #[.slice none 0 0, .slice none 0 0], .int .i64 2]) (by simp [results, Try.results48, go_sem, C0, C1]) rfl ⟨rfl, hb.1⟩
  · obtain rfl : r = 0 := by
      rcases hck with ⟨_, h⟩ | ⟨h, _⟩
      · exact h
      · exact (h hg).elim
    have hd : (decide ((0 : Int) ≤ (n : Int)) && decide ((n : Int) < 5)) = true := by simp; omega
    have c0 : W2.cell? ⟨w.heap.size, n * 2, none⟩ = some (a n) := (K02.out.cell _).trans (dcs_fst a b hn)
    have c1 : W2.cell? ⟨w.heap.size, n * 2 + 1, none⟩ = some (b n) := (K02.out.cell _).trans (dcs_snd a b hn)
    obtain ⟨oa, ma, ca, ea⟩ := ha n
    obtain ⟨ob, mb, cb, eb⟩ := hb n
    rw [ea] at c0
    rw [eb] at c1
    have hn' : (n : Int) < 5 := by omega
    clear hck hg
    go_wp2_with fail
    refine (isKind_any _ _).mono ?_
    rintro e w' ⟨rfl, rfl⟩
    rw [hd]
    go_wp2
    have hb := FIN.out (.slice oa ma ca) (.slice ob mb cb)
    have C0 := hb.2.cell 0
    have C1 := hb.2.cell 1
    simp only [List.getElem?_toArray, List.getElem?_cons_zero, List.getElem?_cons_succ] at C0 C1
    exact bodyPost_ret (v := .tuple #[.agg #[.slice oa ma ca, .slice ob mb cb], .int .i64 0]) (by simp [results, Try.results48, go_sem, C0, C1]) rfl ⟨by rw [ea, eb], hb.1⟩
end Go.Proofs.Ytmghbejbdkoehaa

