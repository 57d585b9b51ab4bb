/- dict.copied. -/
import Derived.Test.YtmghbejbdkoehaaK7
namespace Go.Proofs.Kit
open Go.RowKit
/-- The first kinds' parts alone. -/
def fst {α : Type} (f : Nat → List α) (j : Nat) : Nat → List α := fun k => if k < j then f k else []
theorem fst_step {α : Type} (f : Nat → List α) (j k : Nat) : upd (fst f j) j (f j) k = fst f (j + 1) k := by
  by_cases e : k = j
  · subst e; simp [fst]
  · rw [upd_ne _ _ e]; unfold fst; by_cases h : k < j
    · rw [if_pos h, if_pos (by omega)]
    · rw [if_neg h, if_neg (by omega)]
theorem fst_zero {α : Type} (f : Nat → List α) (k : Nat) : fst f 0 k = [] := by simp [fst]
/-- A region that draws its order, inside a round: as it is outside. -/
theorem wpIn_region_round {F : Fence} {n : Nat} {P : Program} {Q : Exit → Act → World → Prop} {id r : Nat} {a : Act} {w : World} {l : List Oper} (hm : P.follows .mixedOrders = true) (hd : noDefer l = true)
    (h : wpAnyIn F n P .any l.toArray Q l.toArray.size (Array.replicate l.toArray.size false) a w.drew) : (Code.region id l.toArray true).wpIn (F.inRound r) n P Q a w :=
  wpIn_region_any hm (wpAnyIn_inRound r (fun _ ho c => noDefer_of hd (by simpa using ho) c) _ _ _ _ h)
theorem Ow.ne_def {t : TypeId} {B D : Nat} {w : World} {v : Value} {l : List Value} {x : Option (List Deferred)} (h : Ow t B w v l) (hD : w.heap[D]? = some (.deferred x)) : v.ownBlock ≠ some D := by
  intro hg
  rcases h.2 with ⟨rfl, _⟩ | ⟨g', cap, cur, rfl, _, hb, _⟩
  · simp [Value.ownBlock] at hg
  · simp [Value.ownBlock] at hg
    subst hg
    rw [hD] at hb
    cases hb
/-- What lies while a dictionary is copied. -/
structure CJ (tD ts ti : TypeId) (w : World) (a b : Nat → Value) (T : Nat → List ByteArray) (S : Nat → List Int) (A B : Nat → Value) (j : Nat) (W : World) : Prop where
  k0 : Blk W w.heap.size (dcs a b) tD
  k1 : Blk W (w.heap.size + 1) (dcs (fun _ => nilV) (fun _ => nilV)) tD
  k2 : Blk W (w.heap.size + 2) (dcs A B) tD
  kx : Blk W (w.heap.size + 3) (dcs a b) tD
  ow : DOw ts ti w.heap.size W A B (fst T j) (fst S j)
  low : Below w.heap.size w W
section
variable {tD ts ti : TypeId} {w : World} {a b : Nat → Value} {T : Nat → List ByteArray} {S : Nat → List Int} {A B : Nat → Value} {j : Nat} {W W' : World}
theorem CJ.aside {D : Nat} (h : CJ tD ts ti w a b T S A B j W) (ha : Aside D W W') (hD : w.heap.size ≤ D) : CJ tD ts ti w a b T S A B j W' :=
  ⟨ha.blk h.k0, ha.blk h.k1, ha.blk h.k2, ha.blk h.kx, h.ow.aside ha, ha.below h.low hD (Nat.le_refl _)⟩
theorem CJ.later (h : CJ tD ts ti w a b T S A B j W) (g : Below W.heap.size W W') : CJ tD ts ti w a b T S A B j W' := ⟨h.k0.later g, h.k1.later g, h.k2.later g, h.kx.later g, h.ow.later g, h.low.trans (g.mono h.low.size)⟩
theorem CJ.put (h : CJ tD ts ti w a b T S A B j W) (hj : j < 5) {x y : Value} (hx : Ow ts w.heap.size W x ((T j).map Value.string)) (hy : Ow ti w.heap.size W y ((S j).map (Value.int .i64))) (h1 : ts ≠ tD) (h2 : ti ≠ tD) :
    CJ tD ts ti w a b T S (upd A j x) (upd B j y) (j + 1) ((W.setCell ⟨w.heap.size + 2, j * 2, none⟩ x).setCell ⟨w.heap.size + 2, j * 2 + 1, none⟩ y) := by
  refine ⟨(h.k0.other (by simp) _).other (by simp) _, (h.k1.other (by simp) _).other (by simp) _, ?_, (h.kx.other (by simp) _).other (by simp) _, ?_, (h.low.setCell (by simp) _).setCell (by simp) _⟩
  · have := (h.k2.set (j * 2) x).set (j * 2 + 1) y
    rw [dcs_set_fst _ _ hj, dcs_set_snd _ _ hj] at this
    exact this
  · have hk := h.k2
    have hk' := h.k2.set (j * 2) x
    have o2 := (h.ow.set_blk hk h1 h2 (j * 2) x).set_blk hk' h1 h2 (j * 2 + 1) y
    have far : ∀ {t : TypeId} {v : Value} {l : List Value}, t ≠ tD → Ow t w.heap.size W v l → Ow t w.heap.size ((W.setCell ⟨w.heap.size + 2, j * 2, none⟩ x).setCell ⟨w.heap.size + 2, j * 2 + 1, none⟩ y) v l := fun ht ho =>
      ho.same fun g hg => (Below.heap_setCell _ _ _ _ (fun e => ho.ne_blk hk ht (by rw [hg, e]))).trans (Below.heap_setCell _ _ _ _ (fun e => ho.ne_blk hk ht (by rw [hg, e])))
    exact (o2.upd (n := j) (far h1 hx) (far h2 hy)).congr (fst_step T j) (fst_step S j)
end
end Go.Proofs.Kit
namespace Go.Proofs.Ytmghbejbdkoehaa
open Go.RowKit Go.Proofs.Kit Go.Shelf
attribute [local go_sem] Oper.semAt_some

set_option maxRecDepth 100000 in
set_option maxHeartbeats 4000000 in
theorem dcopied_in (a b : Nat → Value) (T : Nat → List ByteArray) (S : Nat → List Int) (w : World) (h : DSl w a b T S) (hL : DLim T S) :
    CallsIn Fence.wide 6 Try.prog 74 #[.agg (dcs a b)] w fun e w' => ∃ A B, e = .returned (.agg (dcs A B)) ∧ DOw 9 3 w.heap.size w' A B (fst T 5) (fst S 5) ∧ Below w.heap.size w w' := by
  have HS := Lib.hid h
  have HL := Lib.hid hL
  have ha : ∀ k, ∃ o m c, a k = .slice o m c := fun k => by obtain ⟨o, c, e, _⟩ := (h k).1.mshape; exact ⟨o, _, c, e⟩
  have hb : ∀ k, ∃ o m c, b k = .slice o m c := fun k => by obtain ⟨o, c, e, _⟩ := (h k).2.mshape; exact ⟨o, _, c, e⟩
  have HT1 := Lib.hid (fun bx => tables1_in 5 (by decide) bx a b ha hb)
  clear h hL ha hb
  simp only [dcs]
  refine callsIn_of_wp_marks Try.func74 rfl trivial ?_ rfl
  simp only [Try.ntmps74, List.size_toArray, List.length_cons, List.length_nil, Nat.reduceAdd, Nat.reduceSub, Array.replicate_succ, Array.replicate_zero, List.push_toArray, List.append_toArray, List.nil_append, List.cons_append]
  refine wpIn_wide.2 ?_
  go_wp2_with (go_at_call 40; refine (tables_any a b _).mono ?_; rintro e w' ⟨rfl, rfl⟩)
  rename_i K hK
  obtain ⟨W0, hW0⟩ : ∃ W0, W0 = ((((w.alloc (.cells (dcs a b) 28)).alloc (.cells (dcs (fun _ => nilV) (fun _ => nilV)) 28)).alloc (.cells (dcs (fun _ => nilV) (fun _ => nilV)) 28)).alloc (.cells (dcs a b) 28)) := ⟨_, rfl⟩
  have I0 : CJ 28 9 3 w a b T S (fun _ => nilV) (fun _ => nilV) 0 W0 := by
    refine ⟨?_, ?_, ?_, ?_, (DOw.nil _ _ _ _).congr (fun k => (fst_zero T k).symm) (fun k => (fst_zero S k).symm), ?_⟩ <;> rw [hW0]
    · exact (((Blk.new w _ _).alloc _).alloc _).alloc _
    · have := ((Blk.new (w.alloc (.cells (dcs a b) 28)) (dcs (fun _ => nilV) (fun _ => nilV)) 28).alloc (.cells (dcs (fun _ => nilV) (fun _ => nilV)) 28)).alloc (.cells (dcs a b) 28); simpa using this
    · have := (Blk.new ((w.alloc (.cells (dcs a b) 28)).alloc (.cells (dcs (fun _ => nilV) (fun _ => nilV)) 28)) (dcs (fun _ => nilV) (fun _ => nilV)) 28).alloc (.cells (dcs a b) 28); simpa using this
    · have := Blk.new (((w.alloc (.cells (dcs a b) 28)).alloc (.cells (dcs (fun _ => nilV) (fun _ => nilV)) 28)).alloc (.cells (dcs (fun _ => nilV) (fun _ => nilV)) 28)) (dcs a b) 28; simpa using this
    · exact ((Gr.alloc _ _).trans ((Gr.alloc _ _).trans ((Gr.alloc _ _).trans (Gr.alloc _ _)))).below
  have e0 : ((((w.alloc (.cells #[a 0, b 0, a 1, b 1, a 2, b 2, a 3, b 3, a 4, b 4] 28)).alloc (.cells #[.slice none 0 0, .slice none 0 0, .slice none 0 0, .slice none 0 0, .slice none 0 0, .slice none 0 0, .slice none 0 0, .slice none 0 0, .slice none 0 0, .slice none 0 0] 28)).alloc (.cells #[.slice none 0 0, .slice none 0 0, .slice none 0 0, .slice none 0 0, .slice none 0 0, .slice none 0 0, .slice none 0 0, .slice none 0 0, .slice none 0 0, .slice none 0 0] 28)).alloc (.cells (dcs a b) 28)) = W0 := by rw [hW0]; rfl
  rw [e0]
  clear e0 hW0
  have hseq := HT1.out (w.heap.size + 3)
  have HI0 := Lib.hid I0
  have hw1 : w.heap.size ≤ W0.heap.size := I0.low.size
  clear I0 HT1
  refine (wpIn_wide (n := 6)).1 ?_
  refine rangeH (α := Nat) rfl (by decide) (gf := 63) (lb := #[.pointer (some ⟨w.heap.size + 3, 0, none⟩)]) rfl trivial (enters_of Try.func63 (by kernel_rfl) rfl) hseq (fun _ => rfl)
    (fun pre W => ∃ A B, CJ 28 9 3 w a b T S A B pre.length W)
    (fun _ _ _ => False)
    (fun pre X X' h ha => by obtain ⟨A, B, h⟩ := h; exact ⟨A, B, h.aside ha hw1⟩) (fun x pre X X' h ha => h) (fun pre X h => by obtain ⟨A, B, h⟩ := h; exact h.kx) (fun pre X X' h hb => by obtain ⟨A, B, h⟩ := h; exact ⟨A, B, h.later hb⟩) ⟨_, _, HI0.out⟩
    (fun x r => { tmps := #[.agg #[a 0, b 0, a 1, b 1, a 2, b 2, a 3, b 3, a 4, b 4], .pointer (some ⟨w.heap.size, 0, none⟩), .pointer (some ⟨w.heap.size + 1, 0, none⟩), .pointer (some ⟨w.heap.size + 1 + 1, 0, none⟩), .int .i64 (x : Int), .pointer (some ⟨r, 0, none⟩), .agg #[a 0, b 0, a 1, b 1, a 2, b 2, a 3, b 3, a 4, b 4], .func (.func 63) #[] #[.pointer (some ⟨w.heap.size + 1 + 1 + 1, 0, none⟩)], .int .i64 (x : Int), .agg #[a x, b x], undef, undef, undef, undef, undef, undef, undef, undef, undef, undef, undef], defers := [] })
    (fun x r W => Blk W r #[a x, b x] 25) (fun x r X X' h ha => ha.blk h) ?assign ?body ?done ?stop
  case assign =>
    intro l x W K hK
    obtain ⟨oa, ca, ea, _⟩ := (HS.out x).1.mshape
    obtain ⟨ob, cb, eb, _⟩ := (HS.out x).2.mshape
    simp only [ea, eb] at hK ⊢
    gi_wp2
    exact hK _ _ (Gr.alloc _ _).below (Nat.le_refl _) (Blk.new _ _ _)
  case stop => exact fun D x pre W _ h => h.elim
  case body =>
    rintro lp pre k r W ⟨A, B, hI⟩ hlen ⟨rfl, hk⟩ hn hR
    simp only [List.length_range] at hI
    have hmix := mixed
    obtain ⟨oa, ca, ea, _⟩ := (HS.out k).1.mshape
    obtain ⟨ob, cb, eb, _⟩ := (HS.out k).2.mshape
    have hT := ((HS.out k).1).later hI.low
    have hS := ((HS.out k).2).later hI.low
    have hk' : (k : Int) < 5 := by omega
    rw [ea] at hT
    rw [eb] at hS
    simp only [ea, eb] at hR ⊢
    obtain ⟨aT, lT⟩ := sl_arg hT
    obtain ⟨aS, lS⟩ := sl_arg hS
    have hT1 : (T k).length ≤ 100000 := by have := HL.out.t k; omega
    have hS1 : (S k).length ≤ 100000 := by have := HL.out.s k; omega
    have hT2 : ∀ y ∈ (T k).map Value.string, y.oneCell' = true := by intro y hy; obtain ⟨s, _, rfl⟩ := List.mem_map.1 hy; rfl
    have hS2 : ∀ y ∈ (S k).map (Value.int .i64), y.oneCell' = true := by intro y hy; obtain ⟨s, _, rfl⟩ := List.mem_map.1 hy; rfl
    obtain ⟨oA, xA, eA⟩ := (hI.ow k).1.shape
    obtain ⟨oB, xB, eB⟩ := (hI.ow k).2.shape
    have AT := Lib.hid aT
    have AS := Lib.hid aS
    have HN := Lib.hid hn
    have bc : Below W.heap.size W W.drew := (Gr.drew W).below
    have hI := hI.later bc
    have hR := hR.later bc
    obtain ⟨c0, c1⟩ : W.cell? ⟨r, 0, none⟩ = some (.slice oa (T k).length ca) ∧ W.cell? ⟨r, 1, none⟩ = some (.slice ob (S k).length cb) := ⟨hR.cell 0, hR.cell 1⟩
    clear aT aS hT hS hn
    have hs0 : w.heap.size ≤ W.drew.heap.size := hI.low.size
    gi_wp2_with fail
    refine wpIn_region_round (F := Fence.wide) hmix (by kernel_rfl) ?_
    refine wpAnyIn_take (i := 0) (v := ?_) rfl rfl (by kernel_rfl) (by kernel_rfl) (by kernel_rfl) (fun _ _ _ h => h) ⟨Or.inl ⟨by rfl, ?_⟩, fun _ => rfl⟩ ?_
    rotate_left
    · intro w; go_simp; with_reducible rfl
    refine wpAnyIn_take (i := 1) (v := ?_) rfl rfl (by kernel_rfl) (by kernel_rfl) (by kernel_rfl) (fun _ _ _ h => h) ⟨Or.inl ⟨by rfl, ?_⟩, fun _ => rfl⟩ ?_
    rotate_left
    · intro w; go_simp; with_reducible rfl
    refine wpAnyIn_take (i := 4) (v := ?_) rfl rfl (by kernel_rfl) (by kernel_rfl) (by kernel_rfl) (fun _ _ _ h => h) ⟨Or.inl ⟨by rfl, ?_⟩, fun _ => rfl⟩ ?_
    rotate_left
    · intro w; go_simp; with_reducible rfl
    refine wpAnyIn_take (i := 8) (v := ?_) rfl rfl (by kernel_rfl) (by kernel_rfl) (by kernel_rfl) (fun _ _ _ h => h) ⟨Or.inl ⟨by rfl, ?_⟩, fun _ => rfl⟩ ?_
    rotate_left
    · intro w; go_simp; with_reducible rfl
    refine wpAnyIn_ready (rs := [2, 5]) (by kernel_rfl) (by simp) ?_
    refine AllReadyIn.cons rfl (fun K1 hK1 => ?_) ?_
    · go_simp
      refine hK1 _ _ ?_
      clear hK1 K1
      refine wpAnyIn_ready (rs := [3, 5]) (by kernel_rfl) (by simp) ?_
      refine AllReadyIn.cons rfl (fun K1 hK1 => ?_) ?_
      · go_simp
        refine ⟨trivial, (callsIn_wide.2 (clones_any _ _ _ _ _ lT hT1 hT2 (AT.out.later bc))).mono ?_⟩
        rintro e wS ⟨vT, rfl, hTO, bS⟩
        obtain ⟨o1, x1, rfl⟩ := hTO.shape
        have bc := bc.trans (bS.mono bc.size)
        have hI := hI.later bS
        have hR := hR.later bS
        obtain ⟨c0, c1⟩ : wS.cell? ⟨r, 0, none⟩ = some (.slice oa (T k).length ca) ∧ wS.cell? ⟨r, 1, none⟩ = some (.slice ob (S k).length cb) := ⟨hR.cell 0, hR.cell 1⟩
        refine hK1 _ _ ?_
        clear hK1 K1
        refine wpAnyIn_ready (rs := [5]) (by kernel_rfl) (by simp) ?_
        refine AllReadyIn.cons rfl (fun K1 hK1 => ?_) ?_
        rotate_left
        · exact AllReadyIn.nil
        go_simp
        refine hK1 _ _ ?_
        clear hK1 K1
        refine wpAnyIn_ready (rs := [6]) (by kernel_rfl) (by simp) ?_
        refine AllReadyIn.cons rfl (fun K1 hK1 => ?_) ?_
        rotate_left
        · exact AllReadyIn.nil
        go_simp
        refine ⟨trivial, (callsIn_wide.2 (clonei_any _ _ _ _ _ lS hS1 hS2 (AS.out.later bc))).mono ?_⟩
        rintro e wI ⟨vS, rfl, hSO, bI⟩
        obtain ⟨o2, x2, rfl⟩ := hSO.shape
        have bc := bc.trans (bI.mono bc.size)
        have hI := hI.later bI
        have hR := hR.later bI
        obtain ⟨c0, c1⟩ : wI.cell? ⟨r, 0, none⟩ = some (.slice oa (T k).length ca) ∧ wI.cell? ⟨r, 1, none⟩ = some (.slice ob (S k).length cb) := ⟨hR.cell 0, hR.cell 1⟩
        refine hK1 _ _ ?_
        clear hK1 K1
        obtain ⟨c2, c3, z2, z3, m2⟩ : wI.cell? ⟨w.heap.size + 1 + 1, k * 2, none⟩ = some (A k) ∧ wI.cell? ⟨w.heap.size + 1 + 1, k * 2 + 1, none⟩ = some (B k) ∧ wI.frozen? ⟨w.heap.size + 1 + 1, k * 2, none⟩ = false ∧ wI.frozen? ⟨w.heap.size + 1 + 1, k * 2 + 1, none⟩ = false ∧ w.heap.size + 1 + 1 < wI.heap.size := ⟨(hI.k2.cell _).trans (dcs_fst A B hk), (hI.k2.cell _).trans (dcs_snd A B hk), hI.k2.frozen _, hI.k2.frozen _, hI.k2.lt⟩
        rw [eA] at c2
        rw [eB] at c3
        have hTO2 := (hTO.later bI).mono hs0
        have hSO2 := hSO.mono (Nat.le_trans hs0 bS.size)
        have HF := Lib.hid (And.intro (hI.put hk hTO2 hSO2 (by decide) (by decide)) (((Keep2.of_below bc HN.out).setCell (p := ⟨w.heap.size + 2, k * 2, none⟩) ((HN.out.below bc).blk hI.k2).1 ((HN.out.below bc).blk hI.k2).2 (.slice o1 ((T k).map Value.string).length x1)).setCell (p := ⟨w.heap.size + 2, k * 2 + 1, none⟩) ((HN.out.below bc).blk hI.k2).1 ((HN.out.below bc).blk hI.k2).2 (.slice o2 ((S k).map (Value.int .i64)).length x2)))
        simp only [List.length_map] at HF
        clear hI hR hTO hSO bS bI hTO2 hSO2
        refine wpAnyIn_ready (rs := [7]) (by kernel_rfl) (by simp) ?_
        refine AllReadyIn.cons rfl (fun K1 hK1 => ?_) ?_
        rotate_left
        · exact AllReadyIn.nil
        go_simp
        refine hK1 _ _ ?_
        clear hK1 K1
        refine wpAnyIn_ready (rs := [9]) (by kernel_rfl) (by simp) ?_
        refine AllReadyIn.cons rfl (fun K1 hK1 => ?_) ?_
        rotate_left
        · exact AllReadyIn.nil
        go_simp
        refine hK1 _ _ ?_
        clear hK1 K1
        refine wpAnyIn_ready (rs := [10]) (by kernel_rfl) (by simp) ?_
        refine AllReadyIn.cons rfl (fun K1 hK1 => ?_) ?_
        rotate_left
        · exact AllReadyIn.nil
        go_simp
        refine hK1 _ _ ?_
        clear hK1 K1
        refine wpAnyIn_done (by kernel_rfl) ?_ _
        exact ⟨HF.out.2, _, _, by rw [range_snoc, List.length_range]; exact HF.out.1⟩
      refine AllReadyIn.cons rfl (fun K1 hK1 => ?_) ?_
      · go_simp
        refine hK1 _ _ ?_
        clear hK1 K1
        refine wpAnyIn_ready (rs := [3]) (by kernel_rfl) (by simp) ?_
        refine AllReadyIn.cons rfl (fun K1 hK1 => ?_) ?_
        rotate_left
        · exact AllReadyIn.nil
        go_simp
        refine ⟨trivial, (callsIn_wide.2 (clones_any _ _ _ _ _ lT hT1 hT2 (AT.out.later bc))).mono ?_⟩
        rintro e wS ⟨vT, rfl, hTO, bS⟩
        obtain ⟨o1, x1, rfl⟩ := hTO.shape
        have bc := bc.trans (bS.mono bc.size)
        have hI := hI.later bS
        have hR := hR.later bS
        obtain ⟨c0, c1⟩ : wS.cell? ⟨r, 0, none⟩ = some (.slice oa (T k).length ca) ∧ wS.cell? ⟨r, 1, none⟩ = some (.slice ob (S k).length cb) := ⟨hR.cell 0, hR.cell 1⟩
        refine hK1 _ _ ?_
        clear hK1 K1
        refine wpAnyIn_ready (rs := [6]) (by kernel_rfl) (by simp) ?_
        refine AllReadyIn.cons rfl (fun K1 hK1 => ?_) ?_
        rotate_left
        · exact AllReadyIn.nil
        go_simp
        refine ⟨trivial, (callsIn_wide.2 (clonei_any _ _ _ _ _ lS hS1 hS2 (AS.out.later bc))).mono ?_⟩
        rintro e wI ⟨vS, rfl, hSO, bI⟩
        obtain ⟨o2, x2, rfl⟩ := hSO.shape
        have bc := bc.trans (bI.mono bc.size)
        have hI := hI.later bI
        have hR := hR.later bI
        obtain ⟨c0, c1⟩ : wI.cell? ⟨r, 0, none⟩ = some (.slice oa (T k).length ca) ∧ wI.cell? ⟨r, 1, none⟩ = some (.slice ob (S k).length cb) := ⟨hR.cell 0, hR.cell 1⟩
        refine hK1 _ _ ?_
        clear hK1 K1
        obtain ⟨c2, c3, z2, z3, m2⟩ : wI.cell? ⟨w.heap.size + 1 + 1, k * 2, none⟩ = some (A k) ∧ wI.cell? ⟨w.heap.size + 1 + 1, k * 2 + 1, none⟩ = some (B k) ∧ wI.frozen? ⟨w.heap.size + 1 + 1, k * 2, none⟩ = false ∧ wI.frozen? ⟨w.heap.size + 1 + 1, k * 2 + 1, none⟩ = false ∧ w.heap.size + 1 + 1 < wI.heap.size := ⟨(hI.k2.cell _).trans (dcs_fst A B hk), (hI.k2.cell _).trans (dcs_snd A B hk), hI.k2.frozen _, hI.k2.frozen _, hI.k2.lt⟩
        rw [eA] at c2
        rw [eB] at c3
        have hTO2 := (hTO.later bI).mono hs0
        have hSO2 := hSO.mono (Nat.le_trans hs0 bS.size)
        have HF := Lib.hid (And.intro (hI.put hk hTO2 hSO2 (by decide) (by decide)) (((Keep2.of_below bc HN.out).setCell (p := ⟨w.heap.size + 2, k * 2, none⟩) ((HN.out.below bc).blk hI.k2).1 ((HN.out.below bc).blk hI.k2).2 (.slice o1 ((T k).map Value.string).length x1)).setCell (p := ⟨w.heap.size + 2, k * 2 + 1, none⟩) ((HN.out.below bc).blk hI.k2).1 ((HN.out.below bc).blk hI.k2).2 (.slice o2 ((S k).map (Value.int .i64)).length x2)))
        simp only [List.length_map] at HF
        clear hI hR hTO hSO bS bI hTO2 hSO2
        refine wpAnyIn_ready (rs := [7]) (by kernel_rfl) (by simp) ?_
        refine AllReadyIn.cons rfl (fun K1 hK1 => ?_) ?_
        rotate_left
        · exact AllReadyIn.nil
        go_simp
        refine hK1 _ _ ?_
        clear hK1 K1
        refine wpAnyIn_ready (rs := [9]) (by kernel_rfl) (by simp) ?_
        refine AllReadyIn.cons rfl (fun K1 hK1 => ?_) ?_
        rotate_left
        · exact AllReadyIn.nil
        go_simp
        refine hK1 _ _ ?_
        clear hK1 K1
        refine wpAnyIn_ready (rs := [10]) (by kernel_rfl) (by simp) ?_
        refine AllReadyIn.cons rfl (fun K1 hK1 => ?_) ?_
        rotate_left
        · exact AllReadyIn.nil
        go_simp
        refine hK1 _ _ ?_
        clear hK1 K1
        refine wpAnyIn_done (by kernel_rfl) ?_ _
        exact ⟨HF.out.2, _, _, by rw [range_snoc, List.length_range]; exact HF.out.1⟩
      exact AllReadyIn.nil
    refine AllReadyIn.cons rfl (fun K1 hK1 => ?_) ?_
    · go_simp
      refine hK1 _ _ ?_
      clear hK1 K1
      refine wpAnyIn_ready (rs := [2]) (by kernel_rfl) (by simp) ?_
      refine AllReadyIn.cons rfl (fun K1 hK1 => ?_) ?_
      rotate_left
      · exact AllReadyIn.nil
      go_simp
      refine hK1 _ _ ?_
      clear hK1 K1
      refine wpAnyIn_ready (rs := [3]) (by kernel_rfl) (by simp) ?_
      refine AllReadyIn.cons rfl (fun K1 hK1 => ?_) ?_
      rotate_left
      · exact AllReadyIn.nil
      go_simp
      refine ⟨trivial, (callsIn_wide.2 (clones_any _ _ _ _ _ lT hT1 hT2 (AT.out.later bc))).mono ?_⟩
      rintro e wS ⟨vT, rfl, hTO, bS⟩
      obtain ⟨o1, x1, rfl⟩ := hTO.shape
      have bc := bc.trans (bS.mono bc.size)
      have hI := hI.later bS
      have hR := hR.later bS
      obtain ⟨c0, c1⟩ : wS.cell? ⟨r, 0, none⟩ = some (.slice oa (T k).length ca) ∧ wS.cell? ⟨r, 1, none⟩ = some (.slice ob (S k).length cb) := ⟨hR.cell 0, hR.cell 1⟩
      refine hK1 _ _ ?_
      clear hK1 K1
      refine wpAnyIn_ready (rs := [6]) (by kernel_rfl) (by simp) ?_
      refine AllReadyIn.cons rfl (fun K1 hK1 => ?_) ?_
      rotate_left
      · exact AllReadyIn.nil
      go_simp
      refine ⟨trivial, (callsIn_wide.2 (clonei_any _ _ _ _ _ lS hS1 hS2 (AS.out.later bc))).mono ?_⟩
      rintro e wI ⟨vS, rfl, hSO, bI⟩
      obtain ⟨o2, x2, rfl⟩ := hSO.shape
      have bc := bc.trans (bI.mono bc.size)
      have hI := hI.later bI
      have hR := hR.later bI
      obtain ⟨c0, c1⟩ : wI.cell? ⟨r, 0, none⟩ = some (.slice oa (T k).length ca) ∧ wI.cell? ⟨r, 1, none⟩ = some (.slice ob (S k).length cb) := ⟨hR.cell 0, hR.cell 1⟩
      refine hK1 _ _ ?_
      clear hK1 K1
      obtain ⟨c2, c3, z2, z3, m2⟩ : wI.cell? ⟨w.heap.size + 1 + 1, k * 2, none⟩ = some (A k) ∧ wI.cell? ⟨w.heap.size + 1 + 1, k * 2 + 1, none⟩ = some (B k) ∧ wI.frozen? ⟨w.heap.size + 1 + 1, k * 2, none⟩ = false ∧ wI.frozen? ⟨w.heap.size + 1 + 1, k * 2 + 1, none⟩ = false ∧ w.heap.size + 1 + 1 < wI.heap.size := ⟨(hI.k2.cell _).trans (dcs_fst A B hk), (hI.k2.cell _).trans (dcs_snd A B hk), hI.k2.frozen _, hI.k2.frozen _, hI.k2.lt⟩
      rw [eA] at c2
      rw [eB] at c3
      have hTO2 := (hTO.later bI).mono hs0
      have hSO2 := hSO.mono (Nat.le_trans hs0 bS.size)
      have HF := Lib.hid (And.intro (hI.put hk hTO2 hSO2 (by decide) (by decide)) (((Keep2.of_below bc HN.out).setCell (p := ⟨w.heap.size + 2, k * 2, none⟩) ((HN.out.below bc).blk hI.k2).1 ((HN.out.below bc).blk hI.k2).2 (.slice o1 ((T k).map Value.string).length x1)).setCell (p := ⟨w.heap.size + 2, k * 2 + 1, none⟩) ((HN.out.below bc).blk hI.k2).1 ((HN.out.below bc).blk hI.k2).2 (.slice o2 ((S k).map (Value.int .i64)).length x2)))
      simp only [List.length_map] at HF
      clear hI hR hTO hSO bS bI hTO2 hSO2
      refine wpAnyIn_ready (rs := [7]) (by kernel_rfl) (by simp) ?_
      refine AllReadyIn.cons rfl (fun K1 hK1 => ?_) ?_
      rotate_left
      · exact AllReadyIn.nil
      go_simp
      refine hK1 _ _ ?_
      clear hK1 K1
      refine wpAnyIn_ready (rs := [9]) (by kernel_rfl) (by simp) ?_
      refine AllReadyIn.cons rfl (fun K1 hK1 => ?_) ?_
      rotate_left
      · exact AllReadyIn.nil
      go_simp
      refine hK1 _ _ ?_
      clear hK1 K1
      refine wpAnyIn_ready (rs := [10]) (by kernel_rfl) (by simp) ?_
      refine AllReadyIn.cons rfl (fun K1 hK1 => ?_) ?_
      rotate_left
      · exact AllReadyIn.nil
      go_simp
      refine hK1 _ _ ?_
      clear hK1 K1
      refine wpAnyIn_done (by kernel_rfl) ?_ _
      exact ⟨HF.out.2, _, _, by rw [range_snoc, List.length_range]; exact HF.out.1⟩
    exact AllReadyIn.nil
  case done =>
    rintro D xs W rfl ⟨A, B, hI⟩ hD hdef
    simp only [List.length_range] at hI
    obtain ⟨sa, sb⟩ := hI.ow.slA
    have hsa := fun k w p m => st_slice (P := Try.prog) sa k w p m
    have hsb := fun k w p m => st_slice (P := Try.prog) sb k w p m
    obtain ⟨c0, c1, c2, c3, c4, c5, c6, c7, c8, c9⟩ := dcells hI.k2
    obtain ⟨d0, d1, d2, d3, d4, d5, d6, d7, d8, d9⟩ := dcells hI.k1
    have z := hI.k1.frozen
    have l1 := hI.k1.lt
    have kR := dsets_blk hI.k1 A B
    have hdr : (dsets W (w.heap.size + 1) A B).heap[D]? = some (.deferred (some [])) := (dsets_heap (by have hh : W.heap[w.heap.size + 1]? = _ := hI.k1; rintro rfl; rw [hh] at hdef; cases hdef) A B).trans hdef
    have oR := hI.ow.dsets hI.k1 (by decide) (by decide) A B
    have bR := dsets_below hI.low (g := w.heap.size + 1) (by omega) A B
    obtain ⟨r0, r1, r2, r3, r4, r5, r6, r7, r8, r9⟩ := dcells (kR.putD (.deferred none) hdr)
    have bP := below_put' (B := w.heap.size) (dsets W (w.heap.size + 1) A B) (l := D) (.deferred none) (by omega)
    have oP : DOw 9 3 w.heap.size ((dsets W (w.heap.size + 1) A B).putObj D (.deferred none)) A B (fst T 5) (fst S 5) := fun k =>
      ⟨(oR k).1.same fun g hg => World.putObj_heap_other (by rintro rfl; exact (oR k).1.ne_def hdr hg), (oR k).2.same fun g hg => World.putObj_heap_other (by rintro rfl; exact (oR k).2.ne_def hdr hg)⟩
    have HR := Lib.hid (And.intro oP (bR.trans bP))
    have HD := Lib.hid hdr
    have hDW : (dsets W (w.heap.size + 1) A B) = dsets W (w.heap.size + 1) A B := rfl
    clear hI kR oR bR oP bP hdr hdef hseq
    unfold dsets at r0 r1 r2 r3 r4 r5 r6 r7 r8 r9 HD HR
    refine hK _ _ ?_
    go_wp2
    refine ⟨by simp, .inl ⟨_, _, rfl, run_takeDeferred HD.out, ?_⟩⟩
    exact ⟨.agg (dcs A B), by simp [results, Try.results74, go_sem, r0, r1, r2, r3, r4, r5, r6, r7, r8, r9, dcs], A, B, rfl, HR.out.1, HR.out.2⟩
theorem dcopied_any (a b : Nat → Value) (T : Nat → List ByteArray) (S : Nat → List Int) (w : World) (h : DSl w a b T S) (hL : DLim T S) :
    Calls Try.prog 74 #[.agg (dcs a b)] w fun e w' => ∃ A B, e = .returned (.agg (dcs A B)) ∧ DOw 9 3 w.heap.size w' A B (fst T 5) (fst S 5) ∧ Below w.heap.size w w' := callsIn_wide.1 (dcopied_in a b T S w h hL)
end Go.Proofs.Ytmghbejbdkoehaa

