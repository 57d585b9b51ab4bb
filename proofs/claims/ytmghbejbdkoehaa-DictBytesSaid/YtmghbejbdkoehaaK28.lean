/- The reference's Put. -/
import Derived.Test.YtmghbejbdkoehaaK24
import Derived.Test.YtmghbejbdkoehaaK25
import Derived.Test.YtmghbejbdkoehaaMn
namespace Go.Proofs.Kit
open Go.RowKit
/-- What the reference's Put comes to. -/
def EPutR (T : Nat → List ByteArray) (k : Int) (s : ByteArray) (T' : Nat → List ByteArray) (i c : Int) : Prop :=
  (mayB k s = false ∧ T' = (fun _ => []) ∧ i = 0 ∧ c = 2) ∨
  (mayB k s = true ∧ ∃ n : Nat, n < 5 ∧ k = (n : Int) ∧
    ((s ∈ T n ∧ T' = T ∧ i = (pos (T n) s : Int) ∧ c = 0) ∨ (s ∉ T n ∧ (T n).length = 128 ∧ T' = (fun _ => []) ∧ i = 0 ∧ c = 6) ∨
     (s ∉ T n ∧ (T n).length ≠ 128 ∧ T' = upd T n (T n ++ [s]) ∧ i = ((T n).length : Int) ∧ c = 0)))
end Go.Proofs.Kit
namespace Go.Proofs.Ytmghbejbdkoehaa
open Go.RowKit Go.Proofs.Kit Go.Shelf

set_option maxRecDepth 100000 in
set_option maxHeartbeats 4000000 in
theorem eput_any (a : Nat → Value) (T : Nat → List ByteArray) (w : World) (hT : ∀ k, Sl w (a k) ((T k).map .string)) (hl : ∀ k, (T k).length ≤ 10000) (k : Int) (s : ByteArray) (hs : s.size ≤ 9223372036854775807) :
    Calls Try.prog 27 #[.agg (nms a), .int .i64 k, .string s] w fun e w' => ∃ A i c T', e = .returned (.tuple #[.agg (nms A), .int .i64 i, .int .i64 c]) ∧ (∀ k, Sl w' (A k) ((T' k).map .string)) ∧ EPutR T k s T' i c ∧ Below w.heap.size w w' := by
  obtain ⟨i0, hi, hz0, hz1, hz2⟩ := infos
  have HT := Lib.hid hT
  have HLn := Lib.hid hl
  have ha : ∀ k, ∃ o m c, a k = .slice o m c := fun k => by obtain ⟨o, c, e, _⟩ := (hT k).mshape; exact ⟨o, _, c, e⟩
  clear hT hl
  obtain ⟨W1, hW1⟩ : ∃ W1, W1 = (w.alloc (.cells (nms a) 37)).alloc (.cells (nms (fun _ => nilV)) 37) := ⟨_, rfl⟩
  have e1 : (w.alloc (.cells #[a 0, a 1, a 2, a 3, a 4] 37)).alloc (.cells #[.slice none 0 0, .slice none 0 0, .slice none 0 0, .slice none 0 0, .slice none 0 0] 37) = W1 := by rw [hW1]; rfl
  have k0 : Blk W1 w.heap.size (nms a) 37 := by rw [hW1]; exact (Blk.new w _ _).alloc _
  have k1 : Blk W1 (w.heap.size + 1) (nms (fun _ => nilV)) 37 := by
    rw [hW1]; have := Blk.new (w.alloc (.cells (nms a) 37)) (nms (fun _ => nilV)) 37; simpa using this
  have g1 : Below w.heap.size w W1 := by rw [hW1]; exact ((Gr.alloc _ _).trans (Gr.alloc _ _)).below
  clear hW1
  have hmay := emay_any k s hs
  obtain ⟨mb, hmb⟩ : ∃ mb, mb = mayB k s := ⟨_, rfl⟩
  rw [← hmb] at hmay
  simp only [nms]
  cases mb with
  | false =>
    obtain ⟨d0, d1, d2, d3, d4⟩ := ncells k1
    have z := k1.frozen
    have KR := Lib.hid (ncells (nsets_blk k1 (fun _ => nilV)))
    have BR := Lib.hid (nsets_below g1 (Nat.le_succ _) (fun _ => nilV))
    have MB := Lib.hid hmb.symm
    clear k0 k1 g1 HT HLn hmb ha
    go_enter Try.func27, Try.ntmps27
    go_wp2_with (go_at_call 18; refine (hmay _).mono ?_; rintro e w2 ⟨rfl, h2⟩; subst h2)
    obtain ⟨r0, r1, r2, r3, r4⟩ := KR.out
    unfold nsets at r0 r1 r2 r3 r4
    exact bodyPost_ret (v := .tuple #[.agg (nms (fun _ => nilV)), .int .i64 0, .int .i64 2]) (by simp [results, Try.results27, go_sem, r0, r1, r2, r3, r4, nms]) rfl ⟨_, _, _, fun _ => [], rfl, fun _ => Sl.nil _, .inl ⟨MB.out, rfl, rfl, rfl⟩, BR.out⟩
  | true =>
    obtain ⟨hk0, hk5⟩ := mayB_kind hmb.symm
    obtain ⟨n, rfl⟩ : ∃ n : Nat, k = (n : Int) := ⟨k.toNat, by omega⟩
    have hn : n < 5 := by omega
    have MB := Lib.hid hmb.symm
    have hid := eid_any a T W1 (fun k => (HT.out k).later g1) (n : Int) s
    rw [idI_in T hn s] at hid
    simp only [nms] at hid
    obtain ⟨c0, c1, c2, c3, c4⟩ := ncells k0
    have K0 := Lib.hid k0
    have K1 := Lib.hid k1
    have G1 := Lib.hid g1
    clear k0 k1 g1 hmb hk0 hk5
    by_cases hm : s ∈ T n
    · have hf : fdI (T n) s = (pos (T n) s : Int) := if_pos hm
      rw [hf] at hid
      obtain ⟨q, hq⟩ : ∃ q, q = pos (T n) s := ⟨_, rfl⟩
      rw [← hq] at hid
      have hq0 : decide (0 ≤ (q : Int)) = true := by rw [decide_eq_true_eq]; omega
      have HQ := Lib.hid hq
      have HM := Lib.hid hm
      clear hq hf hm HLn
      go_enter Try.func27, Try.ntmps27
      go_wp2_with (first | (go_at_call 18; refine (hmay _).mono ?_; rintro e w2 ⟨rfl, h2⟩; subst h2))
      refine hid.mono ?_
      rintro e w3 ⟨rfl, h3⟩
      have k0 := K0.out.later h3
      have k1 := K1.out.later h3
      have g3 := G1.out.trans (h3.mono G1.out.size)
      obtain ⟨b0, b1, b2, b3, b4⟩ := ncells k0
      obtain ⟨d0, d1, d2, d3, d4⟩ := ncells k1
      have z := k1.frozen
      have KR := Lib.hid (ncells (nsets_blk k1 a))
      have BR := Lib.hid (nsets_below g3 (Nat.le_succ _) a)
      have hsa := fun k w p m => st_slice (P := Try.prog) ha k w p m
      clear c0 c1 c2 c3 c4 e1 K0 K1 G1 hid k0 k1 g3 h3
      go_wp2
      obtain ⟨r0, r1, r2, r3, r4⟩ := KR.out
      unfold nsets at r0 r1 r2 r3 r4
      exact bodyPost_ret (v := .tuple #[.agg (nms a), .int .i64 (q : Int), .int .i64 0]) (by simp [results, Try.results27, go_sem, r0, r1, r2, r3, r4, nms]) rfl ⟨a, _, _, T, rfl, fun k => (HT.out k).later BR.out, .inr ⟨MB.out, n, hn, rfl, .inl ⟨HM.out, rfl, by rw [HQ.out], rfl⟩⟩, BR.out⟩
    · have hf : fdI (T n) s = -1 := if_neg hm
      rw [hf] at hid
      have hq0 : decide (0 ≤ (-1 : Int)) = false := rfl
      have HM := Lib.hid hm
      obtain ⟨oN, xN, eN, _, _, _⟩ := (HT.out n).mshape
      obtain ⟨q, hq⟩ : ∃ q, q = (T n).length := ⟨_, rfl⟩
      rw [← hq] at eN
      have HQ := Lib.hid hq
      have hq9 : q ≤ 10000 := by rw [hq]; exact HLn.out n
      have hn5 : (n : Int) < 5 := by omega
      clear hf hm hq
      go_enter Try.func27, Try.ntmps27
      go_wp2_with (first | (go_at_call 18; refine (hmay _).mono ?_; rintro e w2 ⟨rfl, h2⟩; subst h2))
      refine hid.mono ?_
      rintro e w3 ⟨rfl, h3⟩
      have k0 := K0.out.later h3
      have k1 := K1.out.later h3
      have g3 := G1.out.trans (h3.mono G1.out.size)
      have cn : w3.cell? ⟨w.heap.size, n, none⟩ = some (.slice oN q xN) := by rw [k0.cell, nms_get a hn, eN]
      have HT3 := Lib.hid (fun k => (HT.out k).later g3)
      clear c0 c1 c2 c3 c4 e1 K0 K1 G1 hid h3
      by_cases h128 : q = 128
      · have hq1 : ((q : Int) == 128) = true := by simp; omega
        obtain ⟨d0, d1, d2, d3, d4⟩ := ncells k1
        have z := k1.frozen
        have KR := Lib.hid (ncells (nsets_blk k1 (fun _ => nilV)))
        have BR := Lib.hid (nsets_below g3 (Nat.le_succ _) (fun _ => nilV))
        have H128 : Hid ((T n).length = 128) := Lib.hid (by rw [← HQ.out]; exact h128)
        clear k0 k1 g3 h128
        go_wp2
        obtain ⟨r0, r1, r2, r3, r4⟩ := KR.out
        unfold nsets at r0 r1 r2 r3 r4
        exact bodyPost_ret (v := .tuple #[.agg (nms (fun _ => nilV)), .int .i64 0, .int .i64 6]) (by simp [results, Try.results27, go_sem, r0, r1, r2, r3, r4, nms]) rfl ⟨_, _, _, fun _ => [], rfl, fun _ => Sl.nil _, .inr ⟨MB.out, n, hn, rfl, .inr (.inl ⟨HM.out, H128.out, rfl, rfl, rfl⟩)⟩, BR.out⟩
      · have hq1 : ((q : Int) == 128) = false := by simp; omega
        have H128 : Hid ((T n).length ≠ 128) := Lib.hid (by rw [← HQ.out]; exact h128)
        have HK0 := Lib.hid k0
        have HK1 := Lib.hid k1
        have G3 := Lib.hid g3
        have hlt := k0.lt
        have HLT1 := Lib.hid k1.lt
        have hn0 := Ow.new (t := 9) (B := w3.heap.size) (vs := #[]) (l := []) (w := w3) (Nat.le_refl _) rfl (by simp)
        simp only [List.length_nil] at hn0
        have HN0 := Lib.hid hn0
        have HAA : Hid (Sl (w3.alloc (.cells #[] 9)) (.slice oN q xN) ((T n).map .string)) := Lib.hid (by rw [← eN]; exact (HT3.out n).alloc _)
        clear k0 k1 g3 hn0 h128
        go_wp2_with (at_builtin; refine wpList_append_sl rfl _ _ 22 rfl _ 9 i0 (.string ⟨#[]⟩) 16 Try.underlying22 hi hz0 hz1 hz2 rfl _ _ rfl HN0.out _ _ rfl HAA.out ?qb ?qc ?qd ?qe ?_)
        case qb => intro y hy; obtain ⟨s, _, rfl⟩ := List.mem_map.1 hy; rfl
        case qc => have := HQ.out; simp; omega
        case qd => have := HQ.out; simp; omega
        case qe => simp
        intro v1 w4 hO1 hG1
        have hB1 : Below w3.heap.size w3 w4 := ((Below.refl _ _).alloc (Nat.le_refl _) _).grown hG1 (by simp) (fun g hg => (HN0.out.lt g hg).1)
        have HO1 := Lib.hid (hO1.alloc (.cells #[.string s] 9))
        obtain ⟨o1, x1, e1⟩ := hO1.shape
        rw [List.length_map, ← HQ.out] at e1
        subst e1
        have HB1 := Lib.hid hB1
        clear hO1 hG1 HN0 HAA hB1
        go_wp2_with (at_builtin; refine wpList_append_sl rfl _ _ 22 rfl w3.heap.size 9 i0 (.string ⟨#[]⟩) 16 Try.underlying22 hi hz0 hz1 hz2 rfl _ _ rfl HO1.out _ [.string s] rfl ?ra ?rb ?rc ?rd ?re ?_)
        case ra => exact Sl.of_blk (Blk.new _ _ _) (by simp) (by simp) (by simp)
        case rb => simp [Value.oneCell']
        case rc => have := HQ.out; simp; omega
        case rd => have := HQ.out; simp; omega
        case re => simp; have := HB1.out.size; omega
        rw [show (T n).map Value.string ++ [Value.string s] = (T n ++ [s]).map Value.string by simp]
        intro v2 w5 hO2 hG2
        have hB2 : Below w3.heap.size w3 w5 := (HB1.out.alloc HB1.out.size _).grown hG2 (by simp; have := HB1.out.size; omega) (fun g hg => (HO1.out.lt g hg).1)
        obtain ⟨o2, x2, e2⟩ := hO2.shape
        rw [List.length_map, List.length_append, List.length_singleton, ← HQ.out] at e2
        have hk0 := HK0.out.later hB2
        have hk1 := HK1.out.later hB2
        have c5 : w5.cell? ⟨w.heap.size, n, none⟩ = some (.slice oN q xN) := by rw [hk0.cell, nms_get a hn, eN]
        have z5 : w5.frozen? ⟨w.heap.size, n, none⟩ = false := hk0.frozen n
        obtain ⟨X6, hX6⟩ : ∃ X6, X6 = w5.setCell ⟨w.heap.size, n, none⟩ v2 := ⟨_, rfl⟩
        obtain ⟨A, hA⟩ : ∃ A, A = upd a n v2 := ⟨_, rfl⟩
        have hAn : A n = .slice o2 (q + 1) x2 := by rw [hA, upd_same, e2]
        have hAs : ∀ k, ∃ o m c, A k = .slice o m c := fun k => by
          by_cases e : k = n
          · subst e; exact ⟨_, _, _, hAn⟩
          · rw [hA, upd_ne _ _ e]; exact ha k
        have kA : Blk X6 w.heap.size (nms A) 37 := by rw [hX6, hA, ← nms_set a hn]; exact hk0.set n v2
        have kB : Blk X6 (w.heap.size + 1) (nms fun _ => nilV) 37 := by rw [hX6]; exact hk1.other (by simp) v2
        have g6 : Below w.heap.size w X6 := by rw [hX6]; exact (G3.out.trans (hB2.mono G3.out.size)).setCell (Nat.le_refl _) v2
        have sA : ∀ k, Sl X6 (A k) ((upd T n (T n ++ [s]) k).map .string) := fun k => by
          have hR : ButR (fun b => b = w.heap.size) w5 X6 := by rw [hX6]; exact (ButR.refl _ _).set _ _ (fun _ => rfl)
          by_cases e : k = n
          · subst e
            rw [hA, upd_same, upd_same]
            exact hR.sl hO2.sl (fun b hb e => by have := (hO2.lt b hb).1; omega)
          · rw [hA, upd_ne _ _ e, upd_ne _ _ e]
            exact (HT.out k).later g6
        subst e2
        have KA := Lib.hid kA
        have KB := Lib.hid kB
        have G6 := Lib.hid g6
        have SA := Lib.hid sA
        have eX := hX6.symm
        have HOW : Hid (∀ b, (A n).ownBlock = some b → w3.heap.size ≤ b) := Lib.hid fun b hb => (hO2.lt b (by rw [← hAn]; exact hb)).1
        have HAO : Hid (∀ k, k ≠ n → A k = a k) := Lib.hid fun k e => by rw [hA, upd_ne _ _ e]
        clear hX6 hA hO2 hG2 hB2 hk0 hk1 HO1 HB1 HK0 HK1 G3 HT3 cn kA kB g6 sA
        go_upto_region 9 with fail
        clear eX c5 z5
        obtain ⟨r0, r1, r2, r3, r4⟩ := ncells KA.out
        obtain ⟨d0, d1, d2, d3, d4⟩ := ncells KB.out
        have rn : X6.cell? ⟨w.heap.size, n, none⟩ = some (.slice o2 (q + 1) x2) := by rw [KA.out.cell, nms_get A hn, hAn]
        have z := KB.out.frozen
        have hsa := fun k w p m => st_slice (P := Try.prog) hAs k w p m
        have hq2 : ((q : Int) + 1 - 1) = q := by omega
        have KR := Lib.hid (ncells (nsets_blk KB.out A).drew)
        have BR := Lib.hid ((nsets_below G6.out (Nat.le_succ _) A).drew)
        have BR6 := Lib.hid ((nsets_blk KB.out A).drew)
        go_region
        clear r0 r1 r2 r3 r4 d0 d1 d2 d3 d4 rn z hsa hq2
        go_wp2
        obtain ⟨r0, r1, r2, r3, r4⟩ := KR.out
        unfold nsets at r0 r1 r2 r3 r4
        have hS : ∀ k, Sl (nsets X6 (w.heap.size + 1) A).drew (A k) ((upd T n (T n ++ [s]) k).map .string) := fun k => by
          have hR : ButR (fun b => b = w.heap.size + 1) X6 (nsets X6 (w.heap.size + 1) A).drew := by
            unfold nsets
            refine ButR.drew ?_
            iterate 5 (refine ButR.set ?_ _ _ (fun _ => rfl))
            exact ButR.refl _ _
          by_cases e : k = n
          · subst e
            exact hR.sl (SA.out k) (fun b hb e => by have := HOW.out b hb; have := HLT1.out; omega)
          · rw [HAO.out k e, upd_ne _ _ e]
            exact (HT.out k).later BR.out
        exact bodyPost_ret (v := .tuple #[.agg (nms A), .int .i64 (q : Int), .int .i64 0]) (by simp [results, Try.results27, go_sem, r0, r1, r2, r3, r4, nms]) rfl ⟨A, _, _, _, rfl, hS, .inr ⟨MB.out, n, hn, rfl, .inr (.inr ⟨HM.out, H128.out, rfl, by rw [HQ.out], rfl⟩)⟩, BR.out⟩
end Go.Proofs.Ytmghbejbdkoehaa

