/- own: a dictionary that can be gone through, in memory of its own. -/
import Derived.Test.YtmghbejbdkoehaaK15
import Derived.Deep.RegionHeld3
namespace Go.Proofs.Kit
open Go.RowKit
/-- What own keeps. -/
def cutT (T : Nat → List ByteArray) : Nat → List ByteArray := fun k => (T k).take 129
def cutS6 (S : Nat → List Int) : Nat → List Int := fun k => (S k).take 512
structure OJ (tD ts ti : TypeId) (w : World) (A B : Nat → Value) (T : Nat → List ByteArray) (S : Nat → List Int) (a0 b0 : Nat → Value) (j : Nat) (W : World) : Prop where
  k0 : Blk W w.heap.size (dcs A B) tD
  k1 : Blk W (w.heap.size + 1) (dcs (fun _ => nilV) (fun _ => nilV)) tD
  ow : ∀ k, k < j → Ow ts w.heap.size W (A k) ((cutT T k).map Value.string) ∧ Ow ti w.heap.size W (B k) ((cutS6 S k).map (Value.int .i64))
  old : ∀ k, j ≤ k → A k = a0 k ∧ B k = b0 k
  low : Below w.heap.size w W
section
variable {tD ts ti : TypeId} {w : World} {A B a0 b0 : Nat → Value} {T : Nat → List ByteArray} {S : Nat → List Int} {j : Nat} {W W' : World}
theorem OJ.later (h : OJ tD ts ti w A B T S a0 b0 j W) (g : Below W.heap.size W W') : OJ tD ts ti w A B T S a0 b0 j W' :=
  ⟨h.k0.later g, h.k1.later g, fun k hk => ⟨(h.ow k hk).1.later g, (h.ow k hk).2.later g⟩, h.old, h.low.trans (g.mono h.low.size)⟩
theorem OJ.put (h : OJ tD ts ti w A B T S a0 b0 j W) (hj : j < 5) {x y : Value} (hx : Ow ts w.heap.size W x ((cutT T j).map Value.string)) (hy : Ow ti w.heap.size W y ((cutS6 S j).map (Value.int .i64))) (h1 : ts ≠ tD) (h2 : ti ≠ tD) :
    OJ tD ts ti w (upd A j x) (upd B j y) T S a0 b0 (j + 1) ((W.setCell ⟨w.heap.size, j * 2, none⟩ x).setCell ⟨w.heap.size, j * 2 + 1, none⟩ y) := by
  have hk := h.k0
  have hk' := h.k0.set (j * 2) x
  have far : ∀ {t : TypeId} {v : Value} {l : List Value}, t ≠ tD → Ow t w.heap.size W v l → Ow t w.heap.size ((W.setCell ⟨w.heap.size, j * 2, none⟩ x).setCell ⟨w.heap.size, j * 2 + 1, none⟩ y) v l := fun ht ho =>
    ho.same fun g hg => (Below.heap_setCell _ _ _ _ (fun e => ho.ne_blk hk ht (by rw [hg, e]))).trans (Below.heap_setCell _ _ _ _ (fun e => ho.ne_blk hk ht (by rw [hg, e])))
  refine ⟨?_, (h.k1.other (by simp) _).other (by simp) _, fun k hk => ?_, fun k hk => ?_, (h.low.setCell (by simp) _).setCell (by simp) _⟩
  · have := hk'.set (j * 2 + 1) y
    rw [dcs_set_fst _ _ hj, dcs_set_snd _ _ hj] at this
    exact this
  · by_cases e : k = j
    · subst e; simp only [upd_same]; exact ⟨far h1 hx, far h2 hy⟩
    · simp only [upd_ne _ _ e]; exact ⟨far h1 (h.ow k (by omega)).1, far h2 (h.ow k (by omega)).2⟩
  · rw [upd_ne _ _ (by omega), upd_ne _ _ (by omega)]; exact h.old k (by omega)
end
end Go.Proofs.Kit
namespace Go.Proofs.Ytmghbejbdkoehaa
open Go.RowKit Go.Proofs.Kit Go.Shelf

/-- A dictionary that came in. -/
structure DArg (w : World) (a b : Nat → Value) (T : Nat → List ByteArray) (S : Nat → List Int) : Prop where
  t : ∀ k, ∃ o c, a k = .slice o (T k).length c ∧ (T k).length ≤ c ∧ c ≤ 9223372036854775807 ∧ ArgV w o c ((T k).map Value.string)
  s : ∀ k, ∃ o c, b k = .slice o (S k).length c ∧ (S k).length ≤ c ∧ c ≤ 9223372036854775807 ∧ ArgV w o c ((S k).map (Value.int .i64))
theorem DArg.of_sl {w : World} {a b : Nat → Value} {T : Nat → List ByteArray} {S : Nat → List Int} (h : DSl w a b T S) : DArg w a b T S :=
  ⟨fun k => by obtain ⟨o, c, e, h1, h2, _⟩ := (h k).1.mshape; exact ⟨o, c, e, h1, h2, by have := (h k).1; rw [e] at this; exact (sl_arg this).1⟩,
   fun k => by obtain ⟨o, c, e, h1, h2, _⟩ := (h k).2.mshape; exact ⟨o, c, e, h1, h2, by have := (h k).2; rw [e] at this; exact (sl_arg this).1⟩⟩
theorem ArgV.take {w : World} {o : Option Addr} {c : Nat} {l : List Value} (h : ArgV w o c l) (n : Nat) : ArgV w o c (l.take n) := by
  rcases h with ⟨h1, h2, h3⟩ | ⟨a, rfl, h⟩
  · exact .inl ⟨h1, by rw [h2]; simp, h3⟩
  · refine .inr ⟨a, rfl, fun i hi => ?_⟩
    have hi' : i < l.length := by simp at hi; omega
    rw [h i hi', List.getElem_take]
set_option maxRecDepth 100000 in
set_option maxHeartbeats 4000000 in
theorem own6_any (a b : Nat → Value) (T : Nat → List ByteArray) (S : Nat → List Int) (w : World) (h : DArg w a b T S) :
    Calls Try.prog 11 #[.agg (dcs a b)] w fun e w' => ∃ A B, e = .returned (.agg (dcs A B)) ∧ DOw 9 3 w.heap.size w' A B (fst (cutT T) 5) (fst (cutS6 S) 5) ∧ Below w.heap.size w w' := by
  have hmix := mixed
  have HA := Lib.hid h
  have sa : ∀ k, ∃ o m c, a k = .slice o m c := fun k => by obtain ⟨o, c, e, _⟩ := h.t k; exact ⟨o, _, c, e⟩
  have sb : ∀ k, ∃ o m c, b k = .slice o m c := fun k => by obtain ⟨o, c, e, _⟩ := h.s k; exact ⟨o, _, c, e⟩
  have HIX := Lib.hid (index_kinds a b)
  clear h
  simp only [dcs]
  obtain ⟨W1, hW1⟩ : ∃ W1, W1 = (w.alloc (.cells (dcs a b) 28)).alloc (.cells (dcs (fun _ => nilV) (fun _ => nilV)) 28) := ⟨_, rfl⟩
  have e1 : (w.alloc (.cells #[a 0, b 0, a 1, b 1, a 2, b 2, a 3, b 3, a 4, b 4] 28)).alloc (.cells #[.slice none 0 0, .slice none 0 0, .slice none 0 0, .slice none 0 0, .slice none 0 0, .slice none 0 0, .slice none 0 0, .slice none 0 0, .slice none 0 0, .slice none 0 0] 28) = W1 := by rw [hW1]; rfl
  have k0 : Blk W1 w.heap.size (dcs a b) 28 := by rw [hW1]; exact (Blk.new w _ _).alloc _
  have k1 : Blk W1 (w.heap.size + 1) (dcs (fun _ => nilV) (fun _ => nilV)) 28 := by
    rw [hW1]; have := Blk.new (w.alloc (.cells (dcs a b) 28)) (dcs (fun _ => nilV) (fun _ => nilV)) 28; simpa using this
  have g1 : Below w.heap.size w W1 := by rw [hW1]; exact ((Gr.alloc _ _).trans (Gr.alloc _ _)).below
  clear hW1
  obtain ⟨c0, c1, c2, c3, c4, c5, c6, c7, c8, c9⟩ := dcells k0
  go_enter Try.func11, Try.ntmps11
  go_wp2
  have J0 : OJ 28 9 3 w a b T S a b 0 W1 := ⟨k0, k1, fun k hk => by omega, fun k _ => ⟨rfl, rfl⟩, g1⟩
  have HJ0 := Lib.hid J0
  clear c0 c1 c2 c3 c4 c5 c6 c7 c8 c9 k0 k1 g1 e1 J0
  go_loopw [3, 4, 7] (fun _ _ i wr => ∃ (j : Nat) (A B : Nat → Value), j ≤ 5 ∧ i = .int .i64 (j : Int) ∧ Hid (OJ 28 9 3 w A B T S a b j wr)) (fun _ _ i _ => 5 - (intOf i).toNat)
  case atStart => exact ⟨0, a, b, by omega, rfl, HJ0⟩
  case round =>
    obtain ⟨j, A, B, hj, rfl, HJ⟩ := hrel
    clear HJ0
    by_cases hlt : j < 5
    · have hx := HIX.out j hlt
      obtain ⟨oa, ca, ea, hca, hcm, aT⟩ := HA.out.t j
      obtain ⟨ob, cb, eb, hcb, hcn, aS⟩ := HA.out.s j
      rw [ea, eb] at hx
      have aT2 := (ArgV.take aT 129).later HJ.out.low
      have aS2 := (ArgV.take aS 512).later HJ.out.low
      rw [← List.map_take] at aT2 aS2
      have hlT : ((cutT T j).map Value.string).length = min (T j).length 129 := by simp [cutT]; omega
      have hlS : ((cutS6 S j).map (Value.int .i64)).length = min (S j).length 512 := by simp [cutS6]; omega
      obtain ⟨nT, hnT⟩ : ∃ n, n = (T j).length := ⟨_, rfl⟩
      obtain ⟨nS, hnS⟩ : ∃ n, n = (S j).length := ⟨_, rfl⟩
      rw [← hnT] at hx hca hlT
      rw [← hnS] at hx hcb hlS
      have AT := Lib.hid aT2
      have AS := Lib.hid aS2
      have hlt' : (j : Int) < 5 := by omega
      clear aT aS aT2 aS2 ea eb hnT hnS
      obtain ⟨mT, hmT⟩ : ∃ m, m = min nT 129 := ⟨_, rfl⟩
      obtain ⟨mS, hmS⟩ : ∃ m, m = min nS 512 := ⟨_, rfl⟩
      rw [← hmT] at hlT
      rw [← hmS] at hlS
      have hm1 : (if (129 : Int) < (nT : Int) then (129 : Int) else (nT : Int)) = ((mT : Nat) : Int) := by rw [hmT]; split <;> omega
      have hm2 : (if (512 : Int) < (nS : Int) then (512 : Int) else (nS : Int)) = ((mS : Nat) : Int) := by rw [hmS]; split <;> omega
      have hmT2 : mT ≤ 100000 := by omega
      have hmS2 : mS ≤ 100000 := by omega
      have hmTc : mT ≤ ca := by omega
      have hmSc : mS ≤ cb := by omega
      have hT2 : ∀ y ∈ (cutT T j).map Value.string, y.oneCell' = true := by intro y hy; obtain ⟨s, _, rfl⟩ := List.mem_map.1 hy; rfl
      have hS2 : ∀ y ∈ (cutS6 S j).map (Value.int .i64), y.oneCell' = true := by intro y hy; obtain ⟨s, _, rfl⟩ := List.mem_map.1 hy; rfl
      obtain ⟨W2, hW2⟩ : ∃ W2, W2 = wr.alloc (.cells #[.slice oa nT ca, .slice ob nS cb] 25) := ⟨_, rfl⟩
      have g2 : Below wr.heap.size wr W2 := by rw [hW2]; exact (Gr.alloc _ _).below
      have kt : Blk W2 wr.heap.size #[.slice oa nT ca, .slice ob nS cb] 25 := by rw [hW2]; exact Blk.new _ _ _
      have e2 := hW2.symm
      clear hW2
      clear hmT hmS
      have HJ2 := Lib.hid (HJ.out.later (g2.trans ((Gr.drew W2).below.mono g2.size)))
      have AT := Lib.hid (AT.out.later (g2.trans ((Gr.drew W2).below.mono g2.size)))
      have AS := Lib.hid (AS.out.later (g2.trans ((Gr.drew W2).below.mono g2.size)))
      have hs0 : w.heap.size ≤ W2.drew.heap.size := HJ2.out.low.size
      have HIX2 := HIX
      have hwr : w.heap.size < wr.heap.size := HJ.out.k0.lt
      clear HJ g2
      go_wp2
      have kt := kt.drew
      obtain ⟨t0, t1⟩ : W2.cell? ⟨wr.heap.size, 0, none⟩ = some (.slice oa nT ca) ∧ W2.cell? ⟨wr.heap.size, 1, none⟩ = some (.slice ob nS cb) := ⟨kt.cell 0, kt.cell 1⟩
      have bc : Below W2.drew.heap.size W2.drew W2.drew := Below.refl _ _
      obtain ⟨oj, mj, cj, ej⟩ := sa j
      obtain ⟨ok, mk, ck, ek⟩ := sb j
      have hAj : some (A j) = some (.slice oj mj cj) := by rw [(HJ2.out.old j (Nat.le_refl _)).1, ej]
      have hBj : some (B j) = some (.slice ok mk ck) := by rw [(HJ2.out.old j (Nat.le_refl _)).2, ek]
      have hne : w.heap.size ≠ wr.heap.size := by have := hwr; omega
      clear e2 hx hcm hcn HIX2 sa sb HA HIX
      go_region_held3 (fun w' => w'.cell? ⟨wr.heap.size, 0, none⟩ = some (.slice oa nT ca) ∧ w'.cell? ⟨wr.heap.size, 1, none⟩ = some (.slice ob nS cb))
        (first | exact ⟨kt.cell 0, kt.cell 1⟩ | exact ⟨(kt.other (by simpa using hne.symm) _).cell 0, (kt.other (by simpa using hne.symm) _).cell 1⟩ | exact ⟨((kt.other (by simpa using hne.symm) _).other (by simpa using hne.symm) _).cell 0, ((kt.other (by simpa using hne.symm) _).other (by simpa using hne.symm) _).cell 1⟩)
        (first | (go_at_call 37; (with_reducible refine (clones_any _ _ _ _ _ hlT hmT2 hT2 (AT.out.later bc)).mono ?_); rintro e wS ⟨vT, rfl, hTO, bS⟩; obtain ⟨o1, x1, rfl⟩ := hTO.shape; rw [hlT] at hTO ⊢; have bc := bc.trans (bS.mono bc.size); have kt := kt.later bS; obtain ⟨t0, t1⟩ : wS.cell? ⟨wr.heap.size, 0, none⟩ = some (.slice oa nT ca) ∧ wS.cell? ⟨wr.heap.size, 1, none⟩ = some (.slice ob nS cb) := ⟨kt.cell 0, kt.cell 1⟩; have kh := (HJ2.out.later bc).k0; obtain ⟨c0, c1, z0, l0⟩ : wS.cell? ⟨w.heap.size, j * 2, none⟩ = some (.slice oj mj cj) ∧ wS.cell? ⟨w.heap.size, j * 2 + 1, none⟩ = some (.slice ok mk ck) ∧ (∀ i, wS.frozen? ⟨w.heap.size, i, none⟩ = false) ∧ w.heap.size < wS.heap.size := ⟨(kh.cell _).trans ((dcs_fst A B hlt).trans hAj), (kh.cell _).trans ((dcs_snd A B hlt).trans hBj), kh.frozen, kh.lt⟩) | (go_at_call 38; (with_reducible refine (clonei_any _ _ _ _ _ hlS hmS2 hS2 (AS.out.later bc)).mono ?_); rintro e wI ⟨vS, rfl, hSO, bI⟩; obtain ⟨o2, x2, rfl⟩ := hSO.shape; rw [hlS] at hSO ⊢; have bc := bc.trans (bI.mono bc.size); have kt := kt.later bI; obtain ⟨t0, t1⟩ : wI.cell? ⟨wr.heap.size, 0, none⟩ = some (.slice oa nT ca) ∧ wI.cell? ⟨wr.heap.size, 1, none⟩ = some (.slice ob nS cb) := ⟨kt.cell 0, kt.cell 1⟩; have kh := (HJ2.out.later bc).k0; obtain ⟨c0, c1, z0, l0⟩ : wI.cell? ⟨w.heap.size, j * 2, none⟩ = some (.slice oj mj cj) ∧ wI.cell? ⟨w.heap.size, j * 2 + 1, none⟩ = some (.slice ok mk ck) ∧ (∀ i, wI.frozen? ⟨w.heap.size, i, none⟩ = false) ∧ w.heap.size < wI.heap.size := ⟨(kh.cell _).trans ((dcs_fst A B hlt).trans hAj), (kh.cell _).trans ((dcs_snd A B hlt).trans hBj), kh.frozen, kh.lt⟩))
      all_goals
        have HP := Lib.hid ((HJ2.out.later bc).put hlt ((hTO.later bI).mono hs0) (hSO.mono (Nat.le_trans hs0 bS.size)) (by decide) (by decide))
        clear hTO hSO bS bI bc kt kh c0 c1 z0 l0 t0 t1 HJ2 AT AS hlT hlS hT2 hS2 hm1 hm2 hAj hBj
        go_wp2
        go_roundw
        case rel => exact ⟨j + 1, _, _, by omega, by go_num, HP⟩
        case measure => simp [intOf]; omega
    · obtain rfl : j = 5 := by omega
      obtain ⟨A', hA'⟩ : ∃ A' : Nat → Value, A' = fun k => if k < 5 then A k else nilV := ⟨_, rfl⟩
      obtain ⟨B', hB'⟩ : ∃ B' : Nat → Value, B' = fun k => if k < 5 then B k else nilV := ⟨_, rfl⟩
      have ed : dcs A B = dcs A' B' := by rw [hA', hB']; rfl
      have oD : DOw 9 3 w.heap.size wr A' B' (fst (cutT T) 5) (fst (cutS6 S) 5) := fun k => by
        rw [hA', hB']
        unfold fst
        by_cases hk : k < 5
        · simp only [if_pos hk]; exact HJ.out.ow k hk
        · simp only [if_neg hk]; exact ⟨Ow.nil _ _ _, Ow.nil _ _ _⟩
      have k0 := HJ.out.k0
      rw [ed] at k0
      have k1 := HJ.out.k1
      obtain ⟨sA, sB⟩ := oD.slA
      have hsa := fun k w p m => st_slice (P := Try.prog) sA k w p m
      have hsb := fun k w p m => st_slice (P := Try.prog) sB k w p m
      obtain ⟨c0, c1, c2, c3, c4, c5, c6, c7, c8, c9⟩ := dcells k0
      obtain ⟨d0, d1, d2, d3, d4, d5, d6, d7, d8, d9⟩ := dcells k1
      have z1 := k1.frozen
      have l1 := k1.lt
      have kR := dsets_blk k1 A' B'
      have KRR := Lib.hid (dcells kR)
      have HR := Lib.hid (And.intro (oD.dsets k1 (by decide) (by decide) A' B') (dsets_below HJ.out.low (g := w.heap.size + 1) (by omega) A' B'))
      clear hA' hB' ed oD k0 k1 sA sB kR HJ sa sb HA HIX
      go_wp2
      obtain ⟨r0, r1, r2, r3, r4, r5, r6, r7, r8, r9⟩ := KRR.out
      unfold dsets at r0 r1 r2 r3 r4 r5 r6 r7 r8 r9 HR
      exact bodyPost_ret (v := .agg (dcs A' B')) (by simp [results, Try.results11, go_sem, r0, r1, r2, r3, r4, r5, r6, r7, r8, r9, dcs]) rfl ⟨A', B', rfl, HR.out.1, HR.out.2⟩
end Go.Proofs.Ytmghbejbdkoehaa

