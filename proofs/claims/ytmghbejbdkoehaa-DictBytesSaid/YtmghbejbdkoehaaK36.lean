/- The reference's Read. -/
import Derived.Test.YtmghbejbdkoehaaK28
import Derived.Test.YtmghbejbdkoehaaK34
import Derived.Test.YtmghbejbdkoehaaK16
import Derived.Test.YtmghbejbdkoehaaK13
namespace Go.Proofs.Kit
open Go.RowKit
/-- What lies while names are read: the answer's record is the first block, the names read so far the next. -/
structure EI (tN ts : TypeId) (w : World) (A : Nat → Value) (T : Nat → List ByteArray) (W : World) : Prop where
  k4 : Blk W w.heap.size (nms fun _ => nilV) tN
  k7 : Blk W (w.heap.size + 1) (nms A) tN
  ow : ∀ k, Ow ts w.heap.size W (A k) ((T k).map .string)
  low : Below w.heap.size w W
section
variable {tN ts : TypeId} {w : World} {A : Nat → Value} {T : Nat → List ByteArray} {W W' : World}
theorem EI.later (h : EI tN ts w A T W) (g : Below W.heap.size W W') : EI tN ts w A T W' := ⟨h.k4.later g, h.k7.later g, fun k => (h.ow k).later g, h.low.trans (g.mono h.low.size)⟩
theorem EI.congr {T' : Nat → List ByteArray} (h : EI tN ts w A T W) (hT : ∀ k, T k = T' k) : EI tN ts w A T' W := ⟨h.k4, h.k7, fun k => by rw [← hT]; exact h.ow k, h.low⟩
end
theorem ButR.of_below' {B : Nat} {w w' : World} (h : Below B w w') : ButR (fun b => B ≤ b) w w' := ⟨h.os, h.tape, h.output, h.size, fun k hk _ => h.block k (by omega)⟩
theorem butR_nsets' (w : World) (g : Nat) (x : Nat → Value) : ButR (fun b => b = g) w (nsets w g x) := by
  unfold nsets
  have h := ButR.refl (fun b => b = g) w
  iterate 5 (refine ButR.set ?_ _ _ (fun _ => rfl))
  exact h
theorem own_below {t : TypeId} {B : Nat} {w : World} {v : Value} {l : List Value} (h : Ow t B w v l) (g : Nat) (hg : v.ownBlock = some g) : g < w.heap.size := by
  rcases h.2 with ⟨h1, _⟩ | ⟨b, cap, cur, rfl, _, hb, _⟩
  · rw [h1] at hg; cases hg
  · cases hg; exact Blk.lt hb
theorem upd_twice {α : Type} (A : Nat → α) (j : Nat) (v u : α) : upd (upd A j v) j u = upd A j u := by
  funext k
  by_cases e : k = j
  · subst e; rw [upd_same, upd_same]
  · rw [upd_ne _ _ e, upd_ne _ _ e, upd_ne _ _ e]
/-- While a kind's names are read: its row lies above all others. -/
structure EJ (tN ts : TypeId) (w : World) (j Bj : Nat) (A : Nat → Value) (T : Nat → List ByteArray) (v : Value) (l : List ByteArray) (W : World) : Prop where
  k4 : Blk W w.heap.size (nms fun _ => nilV) tN
  k7 : Blk W (w.heap.size + 1) (nms (upd A j v)) tN
  row : Ow ts Bj W v (l.map .string)
  oth : ∀ k, k ≠ j → Ow ts w.heap.size W (A k) ((T k).map .string)
  und : ∀ k, k ≠ j → ∀ g, (A k).ownBlock = some g → g < Bj
  lt : w.heap.size + 1 < Bj
  le : Bj ≤ W.heap.size
  low : Below w.heap.size w W
section
variable {tN ts : TypeId} {w : World} {j Bj : Nat} {A : Nat → Value} {T : Nat → List ByteArray} {v : Value} {l : List ByteArray} {W W' : World}
theorem EJ.later (h : EJ tN ts w j Bj A T v l W) (g : Below W.heap.size W W') : EJ tN ts w j Bj A T v l W' :=
  ⟨h.k4.later g, h.k7.later g, h.row.later g, fun k e => (h.oth k e).later g, h.und, h.lt, Nat.le_trans h.le g.size, h.low.trans (g.mono h.low.size)⟩
theorem EJ.ei (h : EJ tN ts w j Bj A T v l W) : EI tN ts w (upd A j v) (upd T j l) W :=
  ⟨h.k4, h.k7, fun k => by
    by_cases e : k = j
    · subst e; rw [upd_same, upd_same]; exact h.row.mono (by have := h.lt; omega)
    · rw [upd_ne _ _ e, upd_ne _ _ e]; exact h.oth k e, h.low⟩
theorem EI.ej (h : EI tN ts w A T W) (j : Nat) (hA : A j = nilV) : EJ tN ts w j W.heap.size A T nilV [] W :=
  ⟨h.k4, by rw [← hA, upd_self]; exact h.k7, Ow.nil _ _ _, fun k _ => h.ow k, fun k _ g hg => own_below (h.ow k) g hg, h.k7.lt, Nat.le_refl _, h.low⟩
theorem EJ.put {v2 : Value} {l2 : List ByteArray} {W5 : World} (h : EJ tN ts w j Bj A T v l W) (g : Below Bj W W5) (hr : Ow ts Bj W5 v2 (l2.map .string)) (hj : j < 5) (h1 : ts ≠ tN) : EJ tN ts w j Bj A T v2 l2 (W5.setCell ⟨w.heap.size + 1, j, none⟩ v2) := by
  have hb := ButR.of_below' g
  have hlt := h.lt
  have k4 : Blk W5 w.heap.size (nms fun _ => nilV) tN := hb.blk h.k4 (by omega)
  have k7 : Blk W5 (w.heap.size + 1) (nms (upd A j v)) tN := hb.blk h.k7 (by omega)
  have hR : ButR (fun b => b = w.heap.size + 1) W5 (W5.setCell ⟨w.heap.size + 1, j, none⟩ v2) := (ButR.refl _ _).set _ _ (fun _ => rfl)
  refine ⟨k4.other (show w.heap.size ≠ w.heap.size + 1 by omega) v2, ?_, hR.ow hr fun _ hx e => hr.ne_blk k7 h1 (e ▸ hx), fun k e => ?_, h.und, h.lt, ?_, ?_⟩
  · rw [← upd_twice A j v v2, ← nms_set (upd A j v) hj]; exact k7.set j v2
  · have h2 := hb.ow (h.oth k e) (fun b hx e' => by have := h.und k e b hx; omega)
    exact hR.ow h2 fun _ hx e => h2.ne_blk k7 h1 (e ▸ hx)
  · have := g.size; have := h.le; simp; omega
  · exact (h.low.trans (g.mono (by omega))).setCell (by simp) v2
end
end Go.Proofs.Kit
namespace Go.Proofs.Ytmghbejbdkoehaa
open Go.RowKit Go.Proofs.Kit Go.Shelf

theorem rdNames_err {bs : List Int} {p : Nat} {c : Int} (h : rdN bs p = .error c) : rdNames bs p = none := by simp [rdNames, h]
theorem rdNames_many {bs : List Int} {p q : Nat} {x : Int} (h : rdN bs p = .ok (x, q)) (hx : 128 < x) : rdNames bs p = none := by simp [rdNames, h, hx]
theorem rdNames_few {bs : List Int} {p q N : Nat} (h : rdN bs p = .ok ((N : Int), q)) (hx : N ≤ 128) : rdNames bs p = rdTexts bs N q := by
  have : ¬ (128 : Int) < (N : Int) := by omega
  simp [rdNames, h, this]
/-- A text that is wrong, or is none. -/
theorem rd_fail {bs : List Int} {d j p q0 q N m : Nat} {l : List ByteArray} (h1 : rdNames bs p = rdTexts bs N q0) (h2 : rdTexts bs N q0 = (rdTexts bs (m + 1) q).map fun r => (l ++ r.1, r.2))
    (h3 : (∃ c, rdCounted 4000 bs q = .error c) ∨ (∃ t q2, rdCounted 4000 bs q = .ok (t, q2) ∧ (mayB (j : Int) (ofB t) = false ∨ ofB t ∈ l))) : rdKinds bs (d + 1) j p = none := by
  rcases h3 with ⟨c, h3⟩ | ⟨t, q2, h3, h4⟩
  · exact rdKinds_none (by rw [h1, h2, rdTexts_succ_err h3]; rfl)
  · rw [rdTexts_succ_ok h3] at h2
    cases h5 : rdTexts bs m q2 with
    | none => exact rdKinds_none (by rw [h1, h2, h5]; rfl)
    | some r =>
      rw [h5] at h2
      refine rdKinds_no (l := l ++ ofB t :: r.1) (q := r.2) (by rw [h1, h2]; rfl) ?_
      rintro ⟨h6, h7⟩
      rcases h4 with h4 | h4
      · have := h6 (ofB t) (by simp)
        rw [h4] at this; cases this
      · rw [List.nodup_append] at h7
        exact h7.2.2 _ h4 _ (by simp) rfl

/-- What Read comes to. -/
def ERd (w : World) (bs : List Int) (p : Nat) (e : Ending) (w' : World) : Prop := Below w.heap.size w w' ∧ ((∃ L q A, rdDict bs p = some (L, q) ∧ e = .returned (.tuple #[.agg (nms A), .int .i64 ((q : Nat) : Int), .bool true]) ∧ ∀ k, Sl w' (A k) ((ofL L k).map .string)) ∨
  (rdDict bs p = none ∧ e = .returned (.tuple #[.agg (nms fun _ => nilV), .int .i64 0, .bool false])))
set_option maxRecDepth 100000 in
set_option maxHeartbeats 4000000 in
theorem eread_any (p : Nat) (bv : Value) (bs : List Int) (w : World) (hs : Seg .u8 w bv bs) (hb : Byt bs) (hl : bs.length ≤ 1000000000) (hp : p ≤ bs.length) :
    Calls Try.prog 35 #[bv, .int .i64 (p : Int)] w (ERd w bs p) := by
  obtain ⟨i0, hi, hz0, hz1, hz2⟩ := infos
  have HSG := Lib.hid hs
  have HBY := Lib.hid hb
  obtain ⟨o, c, rfl, _, _, _⟩ := hs.shape
  obtain ⟨nb, hnb⟩ : ∃ nb, nb = bs.length := ⟨_, rfl⟩
  have HNB := Lib.hid hnb
  rw [← hnb] at hl hp ⊢
  clear hs hb hnb
  obtain ⟨W1, hW1⟩ : ∃ W1, W1 = (w.alloc (.cells (nms fun _ => nilV) 37)).alloc (.cells (nms (fun _ => nilV)) 37) := ⟨_, rfl⟩
  have e1 : (w.alloc (.cells #[.slice none 0 0, .slice none 0 0, .slice none 0 0, .slice none 0 0, .slice none 0 0] 37)).alloc (.cells #[.slice none 0 0, .slice none 0 0, .slice none 0 0, .slice none 0 0, .slice none 0 0] 37) = W1 := by rw [hW1]; rfl
  have k4 : Blk W1 w.heap.size (nms fun _ => nilV) 37 := by rw [hW1]; exact (Blk.new w _ _).alloc _
  have k7 : Blk W1 (w.heap.size + 1) (nms fun _ => nilV) 37 := by
    rw [hW1]; have := Blk.new (w.alloc (.cells (nms fun _ => nilV) 37)) (nms (fun _ => nilV)) 37; simpa using this
  have g1 : Below w.heap.size w W1 := by rw [hW1]; exact ((Gr.alloc _ _).trans (Gr.alloc _ _)).below
  have E1 : Hid (EI 37 9 w (fun _ => nilV) (ofL []) W1) := Lib.hid ⟨k4, k7, fun k => by rw [ofL_none [] k (by simp)]; exact Ow.nil _ _ _, g1⟩
  clear hW1 k4 k7 g1
  go_enter Try.func35, Try.ntmps35
  go_wp2
  clear e1
  go_loopw [1, 8, 9, 10, 11, 12, 13, 14, 15] (fun pl _ _ _ _ _ _ _ i wr => ∃ (j z : Nat) (L : List (List ByteArray)) (A : Nat → Value), j ≤ 5 ∧ i = .int .i64 (j : Int) ∧ pl = .int .i64 (z : Int) ∧ z ≤ nb ∧ L.length = j ∧ Hid (∀ k, j ≤ k → A k = nilV) ∧ Hid (rdDict bs p = (rdKinds bs (5 - j) j z).map fun r => (L ++ r.1, r.2)) ∧ Hid (EI 37 9 w A (ofL L) wr)) (fun _ _ _ _ _ _ _ _ i _ => 5 - (intOf i).toNat)
  case atStart => exact ⟨0, p, [], _, by omega, rfl, rfl, hp, rfl, Lib.hid (fun _ _ => rfl), Lib.hid (by simp [rdDict]), E1⟩
  case round =>
    obtain ⟨j, z, L, A, hj, rfl, rfl, hz, hLl, HNI, HT, HE⟩ := hrel
    have HLL := Lib.hid hLl
    clear hLl E1
    by_cases hlt : j < 5
    · have hjj : (j : Int) < 5 := by omega
      have h5 : 5 - j = (5 - (j + 1)) + 1 := by omega
      have H5 := Lib.hid h5
      clear h5
      go_wp2_with fail
      rw [HNB.out]
      refine (rreadn_any z _ bs wr (HSG.out.later HE.out.low) HBY.out (by have := HNB.out; omega) (by have := HNB.out; omega)).mono ?_
      rw [← HNB.out]
      rintro e w3 ⟨hB3, ⟨x, q0, v, hr, rfl, rfl⟩ | ⟨cc, hr, rfl⟩⟩
      · obtain ⟨N, rfl, _, hq0, hqn, _⟩ := rdN_back HBY.out hr
        have E3 := Lib.hid (HE.out.later hB3)
        have hqnb : q0 ≤ nb := by rw [HNB.out]; exact hqn
        by_cases h128 : 128 < N
        · have g1 : decide (128 < N) = true := by simpa using h128
          have g2 : decide ((128 : Int) < (N : Int)) = true := by simp; omega
          have HRES : Hid (rdDict bs p = none) := Lib.hid (by rw [HT.out, H5.out, rdKinds_none (rdNames_many hr (by omega))]; rfl)
          have EF := E3
          clear h128 hr HE E3
          obtain ⟨d0, d1, d2, d3, d4⟩ := ncells EF.out.k4
          have z4 := EF.out.k4.frozen
          have KR := Lib.hid (ncells (nsets_blk EF.out.k4 (fun _ => nilV)))
          have BR := Lib.hid (nsets_below EF.out.low (Nat.le_refl _) (fun _ => nilV))
          go_wp2
          obtain ⟨r0, r1, r2, r3, r4⟩ := KR.out
          unfold nsets at r0 r1 r2 r3 r4
          exact bodyPost_ret (v := .tuple #[.agg (nms (fun _ => nilV)), .int .i64 0, .bool false]) (by simp [results, Try.results35, go_sem, r0, r1, r2, r3, r4, nms]) rfl ⟨BR.out, .inr ⟨HRES.out, rfl⟩⟩
        · have g1 : decide (128 < N) = false := by simpa using h128
          have g2 : decide ((128 : Int) < (N : Int)) = false := by simp; omega
          have HNF := Lib.hid (rdNames_few hr (by omega))
          have J3 : Hid (EJ 37 9 w j w3.heap.size A (ofL L) nilV [] w3) := Lib.hid (E3.out.ej j (HNI.out j (Nat.le_refl _)))
          have hN : N ≤ 128 := by omega
          clear h128 hr HE E3
          go_wp2_with fail
          go_loopw [1, 12, 13, 14, 34] (fun pl _ _ _ i wx => ∃ (k q : Nat) (l : List ByteArray) (v : Value), k ≤ N ∧ i = .int .u64 (k : Int) ∧ pl = .int .i64 (q : Int) ∧ q ≤ nb ∧ Hid (EJ 37 9 w j w3.heap.size A (ofL L) v l wx) ∧ Hid (rdTexts bs N q0 = (rdTexts bs (N - k) q).map fun r => (l ++ r.1, r.2)) ∧ Hid ((∀ s ∈ l, mayB (j : Int) s = true) ∧ l.Nodup ∧ l.length = k)) (fun _ _ _ _ i _ => N - (intOf i).toNat)
          case atStart => exact ⟨0, q0, [], nilV, Nat.zero_le _, rfl, rfl, hqnb, J3, Lib.hid (by simp), Lib.hid ⟨by simp, by simp, rfl⟩⟩
          case round =>
            obtain ⟨k, q, l, v, hk, rfl, rfl, hqb, HJ, HTX, HL⟩ := hrel
            obtain ⟨wx, rfl⟩ : ∃ x : World, x = wr := ⟨_, rfl⟩
            by_cases hkN : k < N
            · have H1 : Hid (N - k = (N - (k + 1)) + 1) := Lib.hid (by omega)
              have HTX1 : Hid (rdTexts bs N q0 = (rdTexts bs (N - (k + 1) + 1) q).map fun r => (l ++ r.1, r.2)) := Lib.hid (by rw [HTX.out, H1.out])
              have g3 : decide (k < N) = true := by simpa using hkN
              go_wp2_with fail
              rw [HNB.out]
              refine (rreadt_any q _ bs wx (HSG.out.later HJ.out.low) HBY.out (by have := HNB.out; omega) (by have := HNB.out; omega)).mono ?_
              rw [← HNB.out]
              rintro e w5 ⟨hB5, ⟨t, q2, _, hr, rfl, rfl⟩ | ⟨cc, hr, rfl⟩⟩
              · obtain ⟨ht4, _, hq2, _, _⟩ := rdCounted_back HBY.out hr
                have hq2n : q2 ≤ nb := by rw [HNB.out]; exact hq2
                obtain ⟨s, hs⟩ : ∃ s, s = ofB t := ⟨_, rfl⟩
                have hss : s.size ≤ 4000 := by rw [hs, ofB_size]; exact ht4
                have J5 := Lib.hid (HJ.out.later hB5)
                have hmay := emay_any (j : Int) s (by omega)
                obtain ⟨mb, hmb⟩ : ∃ mb, mb = mayB (j : Int) s := ⟨_, rfl⟩
                rw [← hmb] at hmay
                rw [← hs]
                have HR := Lib.hid hr
                have HS := Lib.hid hs
                clear hr hs HJ hB5 ht4 hq2
                cases mb with
                | false =>
                  have HRES : Hid (rdDict bs p = none) := Lib.hid (by rw [HT.out, H5.out, rd_fail HNF.out HTX1.out (.inr ⟨t, q2, HR.out, .inl (by rw [← HS.out]; exact hmb.symm)⟩)]; rfl)
                  have EF := Lib.hid J5.out.ei
                  clear hmb J5
                  obtain ⟨d0, d1, d2, d3, d4⟩ := ncells EF.out.k4
                  have z4 := EF.out.k4.frozen
                  have KR := Lib.hid (ncells (nsets_blk EF.out.k4 (fun _ => nilV)))
                  have BR := Lib.hid (nsets_below EF.out.low (Nat.le_refl _) (fun _ => nilV))
                  go_wp2_with (go_at_call 18; refine (hmay _).mono ?_; rintro e w2 ⟨rfl, h2⟩; subst h2)
                  obtain ⟨r0, r1, r2, r3, r4⟩ := KR.out
                  unfold nsets at r0 r1 r2 r3 r4
                  exact bodyPost_ret (v := .tuple #[.agg (nms (fun _ => nilV)), .int .i64 0, .bool false]) (by simp [results, Try.results35, go_sem, r0, r1, r2, r3, r4, nms]) rfl ⟨BR.out, .inr ⟨HRES.out, rfl⟩⟩
                | true =>
                  have HMB := Lib.hid hmb.symm
                  have hid := eid_any (upd A j v) (upd (ofL L) j l) w5 (fun k => (J5.out.ei.ow k).sl) (j : Int) s
                  rw [idI_in _ hlt s, upd_same] at hid
                  obtain ⟨b0, b1, b2, b3, b4⟩ := ncells J5.out.k7
                  have hAs : ∀ k, ∃ o m c, upd A j v k = .slice o m c := fun k => by obtain ⟨o, c, e⟩ := (J5.out.ei.ow k).shape; exact ⟨o, _, c, e⟩
                  have hvj : upd A j v j = v := upd_same _ _ _
                  obtain ⟨A1, hA1⟩ : ∃ A1, A1 = upd A j v := ⟨_, rfl⟩
                  rw [← hA1] at hid b0 b1 b2 b3 b4 hAs hvj
                  simp only [nms] at hid
                  have HA1 := Lib.hid hA1
                  clear hmb hA1
                  by_cases hin : s ∈ l
                  · have hf : fdI l s = (pos l s : Int) := if_pos hin
                    rw [hf] at hid
                    have hge : decide (0 ≤ (pos l s : Int)) = true := by rw [decide_eq_true_eq]; omega
                    have HRES : Hid (rdDict bs p = none) := Lib.hid (by rw [HT.out, H5.out, rd_fail HNF.out HTX1.out (.inr ⟨t, q2, HR.out, .inr (by rw [← HS.out]; exact hin)⟩)]; rfl)
                    obtain ⟨ps, hps⟩ : ∃ ps, ps = pos l s := ⟨_, rfl⟩
                    rw [← hps] at hid hge
                    clear hps hf hin
                    go_wp2_with (go_at_call 18; refine (hmay _).mono ?_; rintro e w2 ⟨rfl, h2⟩; subst h2)
                    refine hid.mono ?_
                    rintro e w6 ⟨rfl, h6⟩
                    have EF := Lib.hid (J5.out.ei.later h6)
                    clear b0 b1 b2 b3 b4 h6 J5
                    obtain ⟨d0, d1, d2, d3, d4⟩ := ncells EF.out.k4
                    have z4 := EF.out.k4.frozen
                    have KR := Lib.hid (ncells (nsets_blk EF.out.k4 (fun _ => nilV)))
                    have BR := Lib.hid (nsets_below EF.out.low (Nat.le_refl _) (fun _ => nilV))
                    go_wp2
                    obtain ⟨r0, r1, r2, r3, r4⟩ := KR.out
                    unfold nsets at r0 r1 r2 r3 r4
                    exact bodyPost_ret (v := .tuple #[.agg (nms (fun _ => nilV)), .int .i64 0, .bool false]) (by simp [results, Try.results35, go_sem, r0, r1, r2, r3, r4, nms]) rfl ⟨BR.out, .inr ⟨HRES.out, rfl⟩⟩
                  · have hf : fdI l s = -1 := if_neg hin
                    rw [hf] at hid
                    have hge : decide (0 ≤ (-1 : Int)) = false := rfl
                    have HIN := Lib.hid hin
                    clear hf hin
                    go_wp2_with (go_at_call 18; refine (hmay _).mono ?_; rintro e w2 ⟨rfl, h2⟩; subst h2)
                    refine hid.mono ?_
                    rintro e w6 ⟨rfl, h6⟩
                    have J6 := Lib.hid (J5.out.later h6)
                    clear b0 b1 b2 b3 b4 h6 J5 hid hmay
                    obtain ⟨oN, xN, ev⟩ := J6.out.row.shape
                    rw [List.length_map, HL.out.2.2] at ev
                    have cn : w6.cell? ⟨w.heap.size + 1, j, none⟩ = some (.slice oN k xN) := by rw [J6.out.k7.cell, nms_get _ hlt, upd_same, ev]
                    have HAA : Hid (Ow 9 w3.heap.size (w6.alloc (.cells #[.string s] 9)) (.slice oN k xN) (l.map .string)) := Lib.hid (by rw [← ev]; exact J6.out.row.alloc _)
                    have hk128 : k < 128 := by omega
                    go_wp2_with (at_builtin; refine wpList_append_sl rfl _ _ 22 rfl w3.heap.size 9 i0 (.string ⟨#[]⟩) 16 Try.underlying22 hi hz0 hz1 hz2 rfl _ _ rfl HAA.out _ [.string s] rfl ?ra ?rb ?rc ?rd ?re ?_)
                    case ra => exact Sl.of_blk (Blk.new _ _ _) (by simp) (by simp) (by simp)
                    case rb => simp [Value.oneCell']
                    case rc => have := HL.out.2.2; simp; omega
                    case rd => have := HL.out.2.2; simp; omega
                    case re => have := J6.out.le; simp; omega
                    rw [show l.map Value.string ++ [Value.string s] = (l ++ [s]).map Value.string by simp]
                    intro v2 w7 hO2 hG2
                    have hle6 := J6.out.le
                    have hB7 : Below w3.heap.size w6 w7 := ((Below.refl _ _).alloc hle6 _).grown hG2 (by simp; omega) (fun g hg => (HAA.out.lt g hg).1)
                    have JN := Lib.hid (J6.out.put hB7 hO2 hlt (by decide))
                    have k77 : Blk w7 (w.heap.size + 1) (nms (upd A j v)) 37 := (ButR.of_below' hB7).blk J6.out.k7 (by have := J6.out.lt; omega)
                    have c7 : w7.cell? ⟨w.heap.size + 1, j, none⟩ = some (.slice oN k xN) := by rw [k77.cell, nms_get _ hlt, upd_same, ev]
                    have z7 : w7.frozen? ⟨w.heap.size + 1, j, none⟩ = false := k77.frozen j
                    obtain ⟨o2, x2, e2⟩ := hO2.shape
                    rw [List.length_map, List.length_append, List.length_singleton, HL.out.2.2] at e2
                    have HTN : Hid (rdTexts bs N q0 = (rdTexts bs (N - (k + 1)) q2).map fun r => ((l ++ [s]) ++ r.1, r.2)) := Lib.hid (by
                      rw [HTX1.out, rdTexts_succ_ok HR.out, Option.map_map, HS.out]
                      congr 1; funext r; simp)
                    have HLN : Hid ((∀ x ∈ l ++ [s], mayB (j : Int) x = true) ∧ (l ++ [s]).Nodup ∧ (l ++ [s]).length = k + 1) := Lib.hid ⟨fun x hx => by
                        rcases List.mem_append.1 hx with hx | hx
                        · exact HL.out.1 x hx
                        · rw [List.mem_singleton.1 hx]; exact HMB.out, by
                        rw [List.nodup_append]
                        exact ⟨HL.out.2.1, by simp, fun a ha b hb e => HIN.out (by rw [List.mem_singleton.1 hb] at e; rw [← e]; exact ha)⟩, by rw [List.length_append, HL.out.2.2]; rfl⟩
                    subst e2
                    clear hO2 hG2 hB7 k77 J6 HAA cn ev
                    go_wp2
                    go_roundw
                    case rel => exact ⟨k + 1, q2, l ++ [s], _, by omega, by go_num, rfl, hq2n, JN, HTN, HLN⟩
                    case measure => simp [intOf]; omega
              · have HRES : Hid (rdDict bs p = none) := Lib.hid (by rw [HT.out, H5.out, rd_fail HNF.out HTX1.out (.inl ⟨cc, hr⟩)]; rfl)
                have EF := Lib.hid (HJ.out.later hB5).ei
                have hne : (cc != 0) = true := by simp; exact rdCounted_code hr
                clear hr HJ hB5
                obtain ⟨d0, d1, d2, d3, d4⟩ := ncells EF.out.k4
                have z4 := EF.out.k4.frozen
                have KR := Lib.hid (ncells (nsets_blk EF.out.k4 (fun _ => nilV)))
                have BR := Lib.hid (nsets_below EF.out.low (Nat.le_refl _) (fun _ => nilV))
                go_wp2
                obtain ⟨r0, r1, r2, r3, r4⟩ := KR.out
                unfold nsets at r0 r1 r2 r3 r4
                exact bodyPost_ret (v := .tuple #[.agg (nms (fun _ => nilV)), .int .i64 0, .bool false]) (by simp [results, Try.results35, go_sem, r0, r1, r2, r3, r4, nms]) rfl ⟨BR.out, .inr ⟨HRES.out, rfl⟩⟩
            · obtain rfl : k = N := by omega
              have HNM : Hid (rdNames bs z = some (l, q)) := Lib.hid (by rw [HNF.out, HTX.out]; simp [rdTexts])
              have HTN := Lib.hid (HT.out.trans (by rw [H5.out, rdKinds_ok HNM.out HL.out.1 HL.out.2.1]))
              have EN : Hid (EI 37 9 w (upd A j v) (ofL (L ++ [l])) wx) := Lib.hid (HJ.out.ei.congr (fun k => ofL_snoc L l HLL.out k))
              have HNI2 : Hid (∀ k, j + 1 ≤ k → upd A j v k = nilV) := Lib.hid (fun k hk => by rw [upd_ne _ _ (by omega)]; exact HNI.out k (by omega))
              clear HJ J3
              go_wp2
              go_roundw
              case rel => exact ⟨j + 1, q, L ++ [l], upd A j v, by omega, by go_num, rfl, hqb, by rw [List.length_append, HLL.out]; rfl, HNI2, Lib.hid (by rw [HTN.out, Option.map_map]; congr 1; funext r; simp), EN⟩
              case measure => simp [intOf]; omega
      · have E3 := Lib.hid (HE.out.later hB3)
        have HRES : Hid (rdDict bs p = none) := Lib.hid (by rw [HT.out, H5.out, rdKinds_none (rdNames_err hr)]; rfl)
        have EF := E3
        have hne : (cc != 0) = true := by simp; exact rdN_code hr
        clear hr HE E3
        obtain ⟨d0, d1, d2, d3, d4⟩ := ncells EF.out.k4
        have z4 := EF.out.k4.frozen
        have KR := Lib.hid (ncells (nsets_blk EF.out.k4 (fun _ => nilV)))
        have BR := Lib.hid (nsets_below EF.out.low (Nat.le_refl _) (fun _ => nilV))
        go_wp2
        obtain ⟨r0, r1, r2, r3, r4⟩ := KR.out
        unfold nsets at r0 r1 r2 r3 r4
        exact bodyPost_ret (v := .tuple #[.agg (nms (fun _ => nilV)), .int .i64 0, .bool false]) (by simp [results, Try.results35, go_sem, r0, r1, r2, r3, r4, nms]) rfl ⟨BR.out, .inr ⟨HRES.out, rfl⟩⟩
    · obtain rfl : j = 5 := by omega
      have HRES : Hid (rdDict bs p = some (L, z)) := Lib.hid (by rw [HT.out]; simp [rdKinds])
      have hAs : ∀ k, ∃ o m c, A k = .slice o m c := fun k => by obtain ⟨o, c, e⟩ := (HE.out.ow k).shape; exact ⟨o, _, c, e⟩
      have hsa := fun k w p m => st_slice (P := Try.prog) hAs k w p m
      obtain ⟨d0, d1, d2, d3, d4⟩ := ncells HE.out.k4
      have z4 := HE.out.k4.frozen
      obtain ⟨b0, b1, b2, b3, b4⟩ := ncells HE.out.k7
      have KR := Lib.hid (ncells (nsets_blk HE.out.k4 A))
      have BR := Lib.hid (nsets_below HE.out.low (Nat.le_refl _) A)
      have SR : Hid (∀ k, Sl (nsets wr w.heap.size A) (A k) ((ofL L k).map .string)) := Lib.hid (fun k => ((butR_nsets' wr w.heap.size A).ow (HE.out.ow k) (fun _ hx e => (HE.out.ow k).ne_blk HE.out.k4 (by decide) (e ▸ hx))).sl)
      go_wp2
      obtain ⟨r0, r1, r2, r3, r4⟩ := KR.out
      unfold nsets at r0 r1 r2 r3 r4
      exact bodyPost_ret (v := .tuple #[.agg (nms A), .int .i64 ((z : Nat) : Int), .bool true]) (by simp [results, Try.results35, go_sem, r0, r1, r2, r3, r4, nms]) rfl ⟨BR.out, .inl ⟨L, z, A, HRES.out, rfl, SR.out⟩⟩
end Go.Proofs.Ytmghbejbdkoehaa

