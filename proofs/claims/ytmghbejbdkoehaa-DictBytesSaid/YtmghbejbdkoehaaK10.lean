/- dict.Put. -/
import Derived.Test.YtmghbejbdkoehaaK9
namespace Go.Proofs.Kit
open Go.RowKit
section
variable {α : Type} [DecidableEq α]
/-- A kind's names with one. -/
def putT (T : List α) (s : α) : List α := if s ∈ T then T else T ++ [s]
def putI (T : List α) (s : α) : Nat := if s ∈ T then pos T s else T.length
theorem putI_lt (T : List α) (s : α) : putI T s < (putT T s).length := by
  unfold putI putT
  by_cases h : s ∈ T
  · rw [if_pos h, if_pos h]; exact pos_lt h
  · rw [if_neg h, if_neg h]; simp
theorem putI_get (T : List α) (s : α) : (putT T s)[putI T s]'(putI_lt T s) = s := by
  unfold putI putT
  by_cases h : s ∈ T
  · simp only [if_pos h]; exact pos_get h
  · simp [if_neg h]
theorem putT_mem (T : List α) (s : α) : s ∈ putT T s := by
  have := List.getElem_mem (putI_lt T s)
  rwa [putI_get] at this
theorem allL_one' (T : List α) (s : α) (hT : T.length ≤ 128) : allL T [s] = some (putT T s, [(putI T s : Int)]) := by
  show stepL (some (T, [])) s = _
  rw [stepL_some]
  unfold putT putI
  by_cases h : s ∈ T
  · simp [h]
  · simp only [if_neg h]; rw [if_neg (by omega)]; rfl
end
/-- A dictionary with a name. -/
structure PutOk (ts ti : TypeId) (hs : ByteArray → Nat) (w : World) (T : Nat → List ByteArray) (S : Nat → List Int) (n : Nat) (s : ByteArray) (A B : Nat → Value) (T2 : Nat → List ByteArray) (S2 : Nat → List Int) (w' : World) : Prop where
  hn : n < 5
  may : mayB (n : Int) s = true
  ow : DOw ts ti w.heap.size w' A B T2 S2
  good : DGood hs T2 S2
  lim : DLim T2 S2
  tn : T2 n = putT (T n) s
  oth : ∀ k, k < 5 → k ≠ n → T2 k = T k
  low : Below w.heap.size w w'
/-- What Put comes to. -/
inductive DPutP (ts ti : TypeId) (hs : ByteArray → Nat) (w : World) (T : Nat → List ByteArray) (S : Nat → List Int) (k : Int) (s : ByteArray) : Ending → World → Prop
  | bad (w' : World) (h : ¬ DGood hs T S) (hb : Below w.heap.size w w') : DPutP ts ti hs w T S k s (.returned (.tuple #[.agg (dcs (fun _ => nilV) (fun _ => nilV)), .int .i64 0, .int .i64 160])) w'
  | arg (w' : World) (h : DGood hs T S) (hm : mayB k s = false) (hb : Below w.heap.size w w') : DPutP ts ti hs w T S k s (.returned (.tuple #[.agg (dcs (fun _ => nilV) (fun _ => nilV)), .int .i64 0, .int .i64 2])) w'
  | full (n : Nat) (w' : World) (h : DGood hs T S) (hn : n < 5) (hk : k = (n : Int)) (hm : mayB k s = true) (hni : s ∉ T n) (hl : (T n).length = 128) (hb : Below w.heap.size w w') : DPutP ts ti hs w T S k s (.returned (.tuple #[.agg (dcs (fun _ => nilV) (fun _ => nilV)), .int .i64 0, .int .i64 6])) w'
  | ok (n : Nat) (w' : World) (A B : Nat → Value) (T2 : Nat → List ByteArray) (S2 : Nat → List Int) (h : DGood hs T S) (hk : k = (n : Int)) (p : PutOk ts ti hs w T S n s A B T2 S2 w') (hl : s ∈ T n ∨ (T n).length < 128) : DPutP ts ti hs w T S k s (.returned (.tuple #[.agg (dcs A B), .int .i64 (putI (T n) s : Nat), .int .i64 0])) w'
theorem upd_good {hs : ByteArray → Nat} {T : Nat → List ByteArray} {S : Nat → List Int} {n : Nat} {T' : List ByteArray} {S' : List Int} (h : DGood hs T S) (_hn : n < 5) (hg : Good hs T' S') (hT : T'.length ≤ 128) (hm : ∀ s ∈ T', mayB (n : Int) s = true) : DGood hs (upd (fst T 5) n T') (upd (fst S 5) n S') := by
  refine dgood_iff.2 fun k hk => ?_
  by_cases e : k = n
  · subst e; unfold KGood; simp only [upd_same]; exact ⟨hg, hT, hm⟩
  · unfold KGood; simp only [upd_ne _ _ e]; unfold fst; simp only [if_pos hk]; exact dgood_iff.1 h k hk
theorem upd_lim {T : Nat → List ByteArray} {S : Nat → List Int} {n : Nat} {T' : List ByteArray} {S' : List Int} (h : DLim T S) (hT : T'.length ≤ 128) (hS : S'.length ≤ max (S n).length 4096) (hz : ∀ s ∈ T', s.size ≤ 9223372036854775807) : DLim (upd (fst T 5) n T') (upd (fst S 5) n S') := by
  refine ⟨fun k => ?_, fun k => ?_, fun k => ?_⟩
  · by_cases e : k = n
    · subst e; rw [upd_same]; omega
    · rw [upd_ne _ _ e]; unfold fst; split
      · exact h.t k
      · simp
  · by_cases e : k = n
    · subst e; rw [upd_same]; have := h.s k; omega
    · rw [upd_ne _ _ e]; unfold fst; split
      · exact h.s k
      · simp
  · by_cases e : k = n
    · subst e; rw [upd_same]; exact hz
    · rw [upd_ne _ _ e]; unfold fst; split
      · exact h.z k
      · simp
end Go.Proofs.Kit
namespace Go.Proofs.Ytmghbejbdkoehaa
open Go.RowKit Go.Proofs.Kit Go.Shelf

set_option maxRecDepth 100000 in
set_option maxHeartbeats 4000000 in
theorem dput_any (a b : Nat → Value) (T : Nat → List ByteArray) (S : Nat → List Int) (w : World) (h : DSl w a b T S) (hL : DLim T S) (k : Int) (s : ByteArray) (hs : s.size ≤ 9223372036854775807) :
    Calls Try.prog 26 #[.agg (dcs a b), .int .i64 k, .string s] w (DPutP 9 3 hsh w T S k s) := by
  have hmix := mixed
  have HS := Lib.hid h
  have HL := Lib.hid hL
  clear h hL
  simp only [dcs]
  obtain ⟨W1, hW1⟩ : ∃ W1, W1 = (w.alloc (.cells (dcs a b) 28)).alloc (.cells (dcs (fun _ => nilV) (fun _ => nilV)) 28) := ⟨_, rfl⟩
  have e1 : (w.alloc (.cells #[a 0, b 0, a 1, b 1, a 2, b 2, a 3, b 3, a 4, b 4] 28)).alloc (.cells #[.slice none 0 0, .slice none 0 0, .slice none 0 0, .slice none 0 0, .slice none 0 0, .slice none 0 0, .slice none 0 0, .slice none 0 0, .slice none 0 0, .slice none 0 0] 28) = W1 := by rw [hW1]; rfl
  have k0 : Blk W1 w.heap.size (dcs a b) 28 := by rw [hW1]; exact (Blk.new w _ _).alloc _
  have k1 : Blk W1 (w.heap.size + 1) (dcs (fun _ => nilV) (fun _ => nilV)) 28 := by
    rw [hW1]; have := Blk.new (w.alloc (.cells (dcs a b) 28)) (dcs (fun _ => nilV) (fun _ => nilV)) 28; simpa using this
  have g1 : Below w.heap.size w W1 := by rw [hW1]; exact ((Gr.alloc _ _).trans (Gr.alloc _ _)).below
  clear hW1
  obtain ⟨c0, c1, c2, c3, c4, c5, c6, c7, c8, c9⟩ := dcells k0
  have K0 := Lib.hid k0
  have K1 := Lib.hid k1
  have G1 := Lib.hid g1
  clear k0 k1 g1
  obtain ⟨r, hck⟩ : ∃ r : Int, (DGood hsh T S ∧ r = 0) ∨ (¬ DGood hsh T S ∧ r = 160) := by
    by_cases hg : DGood hsh T S
    · exact ⟨0, .inl ⟨hg, rfl⟩⟩
    · exact ⟨160, .inr ⟨hg, rfl⟩⟩
  go_enter Try.func26, Try.ntmps26
  go_wp2_with fail
  refine (dcheck_any a b T S W1 (HS.out.later G1.out) HL.out r hck).mono ?_
  rintro en W2 ⟨rfl, g2⟩
  have K12 := Lib.hid (K1.out.later g2)
  have K02 := Lib.hid (K0.out.later g2)
  have B2 := Lib.hid (G1.out.trans (g2.mono G1.out.size))
  clear e1 c0 c1 c2 c3 c4 c5 c6 c7 c8 c9 K0 K1 G1 g2
  rcases hck with ⟨hg, rfl⟩ | ⟨hg, rfl⟩
  · obtain ⟨c0, c1, c2, c3, c4, c5, c6, c7, c8, c9⟩ := dcells K02.out
    have HG := Lib.hid hg
    clear hg
    go_wp2_with fail
    obtain ⟨W3, hW3⟩ : ∃ W3, W3 = W2.alloc (.cells #[.string s] 9) := ⟨_, rfl⟩
    have g23 : Below W2.heap.size W2 W3 := by rw [hW3]; exact (Gr.alloc _ _).below
    have sl : Sl W3 (.slice (some ⟨W2.heap.size, 0, none⟩) 1 1) ([s].map Value.string) := by
      rw [hW3]
      exact Sl.of_blk (l := [.string s]) (Blk.new _ _ _) (by simp) (by simp) (by simp)
    rw [← hW3]
    clear hW3
    have g3 := B2.out.trans (g23.mono B2.out.size)
    have hkk : (0 ≤ k ∧ k < 5) ∨ ∃ x ∈ [s], mayB k x = false := by
      cases hm : mayB k s
      · exact .inr ⟨s, by simp, hm⟩
      · exact .inl (mayB_kind hm)
    refine (dwith_any a b T S W3 (HS.out.later g3) HL.out HG.out k _ [s] sl (by simp) (by simpa using hs) hkk).mono ?_
    have K13 := Lib.hid (K12.out.later g23)
    have G3 := Lib.hid g3
    clear sl g23 g3 K12 K02 B2 c0 c1 c2 c3 c4 c5 c6 c7 c8 c9 hkk
    rintro e w4 hW
    cases hW with
    | arg _ hm hb =>
      obtain ⟨x, hx, hm⟩ := hm
      obtain rfl : x = s := by simpa using hx
      have g4X : Below w4.heap.size w4 (w4.alloc (.cells #[.slice none 0 0, .slice none 0 0, .slice none 0 0, .slice none 0 0, .slice none 0 0, .slice none 0 0, .slice none 0 0, .slice none 0 0, .slice none 0 0, .slice none 0 0] 28)) := (Gr.alloc _ _).below
      have k1 := (K13.out.later hb).later g4X
      have g3 := (G3.out.trans (hb.mono G3.out.size)).trans (g4X.mono (G3.out.trans (hb.mono G3.out.size)).size)
      clear hb g4X
      simp only [dcs, nilV]
      obtain ⟨d0, d1, d2, d3, d4, d5, d6, d7, d8, d9⟩ := dcells k1
      have z := k1.frozen
      have l1 := k1.lt
      obtain ⟨bR, kR⟩ := dnil k1 g3 (by omega)
      have KRR := Lib.hid (dcells kR)
      have HR := Lib.hid bR
      clear bR kR k1 g3
      go_wp2
      obtain ⟨r0, r1, r2, r3, r4, r5, r6, r7, r8, r9⟩ := KRR.out
      unfold dsets at r0 r1 r2 r3 r4 r5 r6 r7 r8 r9
      exact bodyPost_ret (v := .tuple #[.agg (dcs (fun _ => nilV) (fun _ => nilV)), .int .i64 0, .int .i64 2]) (by simp [results, Try.results26, go_sem, r0, r1, r2, r3, r4, r5, r6, r7, r8, r9, dcs]) rfl (.arg _ HG.out hm HR.out)
    | full n _ hn hk hm hf hb =>
      subst hk
      have hm := hm s (by simp)
      have hT := HG.out.few n hn
      rw [allL_one' _ _ hT] at hf
      have hfu : s ∉ T n ∧ (T n).length = 128 := by
        rcases hf with hf | ⟨T', ns, hf, h128⟩
        · cases hf
        · injection hf with hf
          injection hf with hf _
          subst hf
          unfold putT at h128
          split at h128
          · omega
          · rename_i hni
            simp at h128
            exact ⟨hni, by omega⟩
      have HFU := Lib.hid hfu
      clear hf hfu
      have g4X : Below w4.heap.size w4 (w4.alloc (.cells #[.slice none 0 0, .slice none 0 0, .slice none 0 0, .slice none 0 0, .slice none 0 0, .slice none 0 0, .slice none 0 0, .slice none 0 0, .slice none 0 0, .slice none 0 0] 28)) := (Gr.alloc _ _).below
      have k1 := (K13.out.later hb).later g4X
      have g3 := (G3.out.trans (hb.mono G3.out.size)).trans (g4X.mono (G3.out.trans (hb.mono G3.out.size)).size)
      clear hb g4X
      simp only [dcs, nilV]
      obtain ⟨d0, d1, d2, d3, d4, d5, d6, d7, d8, d9⟩ := dcells k1
      have z := k1.frozen
      have l1 := k1.lt
      obtain ⟨bR, kR⟩ := dnil k1 g3 (by omega)
      have KRR := Lib.hid (dcells kR)
      have HR := Lib.hid bR
      clear bR kR k1 g3
      go_wp2
      obtain ⟨r0, r1, r2, r3, r4, r5, r6, r7, r8, r9⟩ := KRR.out
      unfold dsets at r0 r1 r2 r3 r4 r5 r6 r7 r8 r9
      exact bodyPost_ret (v := .tuple #[.agg (dcs (fun _ => nilV) (fun _ => nilV)), .int .i64 0, .int .i64 6]) (by simp [results, Try.results26, go_sem, r0, r1, r2, r3, r4, r5, r6, r7, r8, r9, dcs]) rfl (DPutP.full n _ HG.out hn rfl hm HFU.out.1 HFU.out.2 HR.out)
    | ok n _ T' S' ns A B vN hn hk hm hal hT hgd hSl hO hN hb =>
      have hm := hm s (by simp)
      have hT128 := HG.out.few n hn
      rw [allL_one' _ _ hT128] at hal
      injection hal with hal
      injection hal with hal1 hal2
      subst hal1
      subst hal2
      obtain ⟨qN, xN, rfl⟩ := hN.shape
      obtain ⟨g, rfl, hnx, hgl, dN⟩ := Ow.at hN (i := 0) (by simp)
      simp only [List.getElem_cons_zero] at dN
      simp only [List.length_map, List.length_cons, List.length_nil] at hN ⊢
      subst hk
      have hs3 : w.heap.size ≤ W3.heap.size := G3.out.size
      obtain ⟨X, hX⟩ : ∃ X, X = w4.alloc (.cells (dcs A B) 28) := ⟨_, rfl⟩
      have kX : Blk X w4.heap.size (dcs A B) 28 := by rw [hX]; exact Blk.new _ _ _
      have gX : Below w4.heap.size w4 X := by rw [hX]; exact (Gr.alloc _ _).below
      have eX : w4.alloc (.cells #[A 0, B 0, A 1, B 1, A 2, B 2, A 3, B 3, A 4, B 4] 28) = X := hX.symm
      clear hX
      have g3X : Below W3.heap.size W3 X := hb.trans (gX.mono hb.size)
      have g0X : Below w.heap.size w X := G3.out.trans (g3X.mono hs3)
      have dX : X.cell? ⟨g, 0, none⟩ = some (.int .i64 (putI (T n) s : Nat)) := (gX.cell (p := ⟨g, 0, none⟩) hgl).trans dN
      have kr := K13.out.later g3X
      obtain ⟨sa, sb⟩ := hO.slA
      have hsa := fun k w p m => st_slice (P := Try.prog) sa k w p m
      have hsb := fun k w p m => st_slice (P := Try.prog) sb k w p m
      have oX : DOw 9 3 w.heap.size X A B (upd (fst T 5) n (putT (T n) s)) (upd (fst S 5) n S') := (hO.later gX).mono hs3
      have hTm : ∀ x ∈ putT (T n) s, mayB (n : Int) x = true := by
        intro x hx
        unfold putT at hx
        split at hx
        · exact HG.out.may n hn x hx
        · rcases List.mem_append.1 hx with hx | hx
          · exact HG.out.may n hn x hx
          · obtain rfl : x = s := by simpa using hx
            exact hm
      have hl : s ∈ T n ∨ (T n).length < 128 := by
        unfold putT at hT
        split at hT
        · exact .inl (by assumption)
        · simp at hT; exact .inr (by omega)
      have HPU := Lib.hid (And.intro (upd_good HG.out hn hgd hT hTm) (upd_lim HL.out hT hSl (fun x hx => by have := mayB_size (hTm x hx); omega)))
      have kR := dsets_blk kr A B
      have KRR := Lib.hid (dcells kR)
      have oR := oX.dsets kr (by decide) (by decide) A B
      have bR := dsets_below g0X (g := w.heap.size + 1) (by omega) A B
      have HR := Lib.hid (And.intro (oR.later (Gr.drew _).below) bR.drew)
      have hgne : g ≠ w.heap.size + 1 := fun e => ((hN.later gX).ne_blk kr (by decide)) (by rw [e]; rfl)
      have dX2 : (dsets X (w.heap.size + 1) A B).cell? ⟨g, 0, none⟩ = some (.int .i64 (putI (T n) s : Nat)) := (World.cell?_of_block (a := ⟨g, 0, none⟩) (dsets_heap hgne A B)).trans dX
      unfold dsets at dX2
      obtain ⟨y0, y1, y2, y3, y4, y5, y6, y7, y8, y9⟩ := dcells kX
      obtain ⟨d0, d1, d2, d3, d4, d5, d6, d7, d8, d9⟩ := dcells kr
      have z2 := kr.frozen
      have l2 := kr.lt
      have HL2 := Lib.hid hl
      have HM2 := Lib.hid hm
      clear hb gX g3X g0X kX kr oX kR oR bR hTm hO hN hgd hSl hT sa sb hl hm hnx dN hs3 hgne
      simp only [dcs]
      go_wp2
      go_region
      all_goals
        go_wp2
        obtain ⟨r0, r1, r2, r3, r4, r5, r6, r7, r8, r9⟩ := KRR.out
        unfold dsets at r0 r1 r2 r3 r4 r5 r6 r7 r8 r9 HR
        exact bodyPost_ret (v := .tuple #[.agg (dcs A B), .int .i64 (putI (T n) s : Nat), .int .i64 0]) (by simp [results, Try.results26, go_sem, r0, r1, r2, r3, r4, r5, r6, r7, r8, r9, dcs]) rfl
          (.ok n _ A B _ _ HG.out rfl ⟨hn, HM2.out, HR.out.1, HPU.out.1, HPU.out.2, by rw [upd_same], fun k hk hne => by rw [upd_ne _ _ hne]; unfold fst; rw [if_pos hk], HR.out.2⟩ HL2.out)
  · have g3 := B2.out
    have k1 := K12.out
    have HF := Lib.hid hg
    clear hg
    obtain ⟨d0, d1, d2, d3, d4, d5, d6, d7, d8, d9⟩ := dcells k1
    have z := k1.frozen
    have l1 := k1.lt
    obtain ⟨bR, kR⟩ := dnil k1 g3 (by omega)
    obtain ⟨r0, r1, r2, r3, r4, r5, r6, r7, r8, r9⟩ := dcells kR
    have HR := Lib.hid bR
    unfold dsets at r0 r1 r2 r3 r4 r5 r6 r7 r8 r9
    clear bR kR k1 g3
    go_wp2
    exact bodyPost_ret (v := .tuple #[.agg (dcs (fun _ => nilV) (fun _ => nilV)), .int .i64 0, .int .i64 160]) (by simp [results, Try.results26, go_sem, r0, r1, r2, r3, r4, r5, r6, r7, r8, r9, dcs]) rfl (.bad _ HF.out HR.out)
end Go.Proofs.Ytmghbejbdkoehaa

