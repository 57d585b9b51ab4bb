/- dict.with. -/
import Derived.Test.YtmghbejbdkoehaaK8
namespace Go.Proofs.Kit
open Go.RowKit
/-- Ten cells of nothing. -/
theorem dnil {w0 w : World} {g : Nat} {a b : Nat → Value} {t : TypeId} (h : Blk w g (dcs a b) t) (hb : Below w0.heap.size w0 w) (hg : w0.heap.size ≤ g) : Below w0.heap.size w0 (dsets w g (fun _ => nilV) (fun _ => nilV)) ∧ Blk (dsets w g (fun _ => nilV) (fun _ => nilV)) g (dcs (fun _ => nilV) (fun _ => nilV)) t :=
  ⟨dsets_below hb hg _ _, dsets_blk h _ _⟩
/-- What with comes to. -/
inductive WithP (ts ti : TypeId) (hs : ByteArray → Nat) (w : World) (T : Nat → List ByteArray) (S : Nat → List Int) (k : Int) (l : List ByteArray) : Ending → World → Prop
  | arg (w' : World) (h : ∃ s ∈ l, mayB k s = false) (hb : Below w.heap.size w w') : WithP ts ti hs w T S k l (.returned (.tuple #[.agg (dcs (fun _ => nilV) (fun _ => nilV)), nilV, .int .i64 2])) w'
  | full (n : Nat) (w' : World) (hn : n < 5) (hk : k = (n : Int)) (hm : ∀ s ∈ l, mayB k s = true) (h : allL (T n) l = none ∨ ∃ T' ns, allL (T n) l = some (T', ns) ∧ 128 < T'.length) (hb : Below w.heap.size w w') : WithP ts ti hs w T S k l (.returned (.tuple #[.agg (dcs (fun _ => nilV) (fun _ => nilV)), nilV, .int .i64 6])) w'
  | ok (n : Nat) (w' : World) (T' : List ByteArray) (S' ns : List Int) (A B : Nat → Value) (vN : Value) (hn : n < 5) (hk : k = (n : Int)) (hm : ∀ s ∈ l, mayB k s = true) (h : allL (T n) l = some (T', ns)) (hT : T'.length ≤ 128) (hg : Good hs T' S') (hS : S'.length ≤ max (S n).length 4096)
      (ho : DOw ts ti w.heap.size w' A B (upd (fst T 5) n T') (upd (fst S 5) n S')) (hN : Ow ti w.heap.size w' vN (ns.map (Value.int .i64))) (hb : Below w.heap.size w w') : WithP ts ti hs w T S k l (.returned (.tuple #[.agg (dcs A B), vN, .int .i64 0])) w'
theorem Ow.set_blk {t t' : TypeId} {B : Nat} {w : World} {v : Value} {l : List Value} (h : Ow t B w v l) {g : Nat} {vs : Array Value} (hk : Blk w g vs t') (ht : t ≠ t') (i : Nat) (u : Value) : Ow t B (w.setCell ⟨g, i, none⟩ u) v l :=
  h.same fun r hr => Below.heap_setCell _ _ _ _ (fun e => h.ne_blk hk ht (by rw [hr, e]))
theorem Ow.dsets {t t' : TypeId} {B : Nat} {w : World} {v : Value} {l : List Value} (h : Ow t B w v l) {g : Nat} {vs : Array Value} (hk : Blk w g vs t') (ht : t ≠ t') (x y : Nat → Value) : Ow t B (dsets w g x y) v l :=
  h.same fun r hr => dsets_heap (fun e => h.ne_blk hk ht (by rw [hr, e])) x y
theorem upd_sl {A : Nat → Value} {n : Nat} {v : Value} (h : ∀ k, ∃ o m c, A k = .slice o m c) (hv : ∃ o m c, v = .slice o m c) : ∀ k, ∃ o m c, upd A n v k = .slice o m c := fun k => by
  by_cases e : k = n
  · subst e; rw [upd_same]; exact hv
  · rw [upd_ne _ _ e]; exact h k
end Go.Proofs.Kit
namespace Go.Proofs.Ytmghbejbdkoehaa
open Go.RowKit Go.Proofs.Kit Go.Shelf

set_option maxRecDepth 100000 in
set_option maxHeartbeats 4000000 in
theorem dwith_any (a b : Nat → Value) (T : Nat → List ByteArray) (S : Nat → List Int) (w : World) (h : DSl w a b T S) (hL : DLim T S) (hg : DGood hsh T S) (k : Int) (vl : Value) (l : List ByteArray) (hl : Sl w vl (l.map Value.string)) (hll : l.length ≤ 1000) (hlz : ∀ s ∈ l, s.size ≤ 9223372036854775807)
    (hk : (0 ≤ k ∧ k < 5) ∨ ∃ s ∈ l, mayB k s = false) :
    Calls Try.prog 52 #[.agg (dcs a b), .int .i64 k, vl] w (WithP 9 3 hsh w T S k l) := by
  have ha : ∀ k, ∃ o m c, a k = .slice o m c := fun k => by obtain ⟨o, c, e, _⟩ := (h k).1.mshape; exact ⟨o, _, c, e⟩
  have hb : ∀ k, ∃ o m c, b k = .slice o m c := fun k => by obtain ⟨o, c, e, _⟩ := (h k).2.mshape; exact ⟨o, _, c, e⟩
  have HS := Lib.hid h
  have HL := Lib.hid hL
  have HG := Lib.hid hg
  have HLS := Lib.hid hl
  have HLZ := Lib.hid hlz
  have HK := Lib.hid hk
  obtain ⟨oL, cL, rfl, _, _, aL⟩ := hl.mshape
  clear h hL hg hl hlz hk
  simp only [dcs]
  obtain ⟨m, hm⟩ : ∃ m, m = l.length := ⟨_, rfl⟩
  rw [← hm] at hll ⊢
  have HM := Lib.hid hm
  clear hm
  obtain ⟨W1, hW1⟩ : ∃ W1, W1 = (w.alloc (.cells (dcs a b) 28)).alloc (.cells (dcs (fun _ => nilV) (fun _ => nilV)) 28) := ⟨_, rfl⟩
  have e1 : (w.alloc (.cells #[a 0, b 0, a 1, b 1, a 2, b 2, a 3, b 3, a 4, b 4] 28)).alloc (.cells #[.slice none 0 0, .slice none 0 0, .slice none 0 0, .slice none 0 0, .slice none 0 0, .slice none 0 0, .slice none 0 0, .slice none 0 0, .slice none 0 0, .slice none 0 0] 28) = W1 := by rw [hW1]; rfl
  have k0 : Blk W1 w.heap.size (dcs a b) 28 := by rw [hW1]; exact (Blk.new w _ _).alloc _
  have k1 : Blk W1 (w.heap.size + 1) (dcs (fun _ => nilV) (fun _ => nilV)) 28 := by
    rw [hW1]; have := Blk.new (w.alloc (.cells (dcs a b) 28)) (dcs (fun _ => nilV) (fun _ => nilV)) 28; simpa using this
  have g1 : Below w.heap.size w W1 := by rw [hW1]; exact ((Gr.alloc _ _).trans (Gr.alloc _ _)).below
  clear hW1
  go_enter Try.func52, Try.ntmps52
  go_wp2
  have K0 := Lib.hid k0
  have K1 := Lib.hid k1
  have G1 := Lib.hid g1
  clear e1 k0 k1 g1
  go_loopw [10, 17] (fun _ i wr => ∃ j : Nat, j ≤ m ∧ i = .int .i64 (j : Int) ∧ Below W1.heap.size W1 wr ∧ Hid (∀ s ∈ l.take j, mayB k s = true)) (fun _ i _ => m - (intOf i).toNat)
  case atStart => exact ⟨0, Nat.zero_le _, rfl, Below.refl _ _, Lib.hid (by simp)⟩
  case round =>
    obtain ⟨j, hj, rfl, hB, hin⟩ := hrel
    have k0 := K0.out.later hB
    have k1 := K1.out.later hB
    have g0 := G1.out.trans (hB.mono G1.out.size)
    by_cases hlt : j < m
    · have hjl : j < l.length := by have := HM.out; omega
      obtain ⟨bT, fT, rfl, hbT, hcT⟩ := aL.resolve_left (fun e => by rw [e] at hjl; simp at hjl)
      have d1 := (g0.cell (p := ⟨bT, fT + j, none⟩) hbT).trans (hcT j hjl)
      have htk := List.take_succ_eq_append_getElem hjl
      have hz := HLZ.out _ (List.getElem_mem hjl)
      have hmem := List.getElem_mem hjl
      obtain ⟨s, hs⟩ : ∃ s, s = l[j] := ⟨_, rfl⟩
      rw [← hs] at d1 htk hz hmem
      have HTK := Lib.hid htk
      have HME := Lib.hid hmem
      have HB := Lib.hid hB
      have H0 := Lib.hid k0
      have H1 := Lib.hid k1
      have HG0 := Lib.hid g0
      clear hs hcT htk hmem hB k0 k1 g0 hjl
      go_wp2_with fail
      refine (may_any k s hz _).mono ?_
      rintro e w3 ⟨rfl, hb3⟩
      have HB3 := Lib.hid (HB.out.trans (hb3.mono HB.out.size))
      cases hm : mayB k s
      · have k1 := H1.out.later hb3
        have g3 := HG0.out.trans (hb3.mono HG0.out.size)
        obtain ⟨d0, d1, d2, d3, d4, d5, d6, d7, d8, d9⟩ := dcells k1
        have z := k1.frozen
        have l1 := k1.lt
        obtain ⟨bR, kR⟩ := dnil k1 g3 (by omega)
        obtain ⟨r0, r1, r2, r3, r4, r5, r6, r7, r8, r9⟩ := dcells kR
        have HR := Lib.hid bR
        unfold dsets at r0 r1 r2 r3 r4 r5 r6 r7 r8 r9
        clear bR kR k1 g3 hb3
        go_wp2
        exact bodyPost_ret (v := .tuple #[.agg (dcs (fun _ => nilV) (fun _ => nilV)), nilV, .int .i64 2]) (by simp [results, Try.results52, go_sem, r0, r1, r2, r3, r4, r5, r6, r7, r8, r9, dcs]) rfl (.arg _ ⟨s, HME.out, hm⟩ HR.out)
      · have HMM := Lib.hid hm
        clear hm hb3
        go_wp2
        go_roundw
        case rel =>
          refine ⟨j + 1, by omega, by go_num, HB3.out, Lib.hid ?_⟩
          rw [HTK.out]
          intro x hx
          rcases List.mem_append.1 hx with hx | hx
          · exact hin.out x hx
          · obtain rfl : x = s := by simpa using hx
            exact HMM.out
        case measure => simp [intOf]; omega
    · have hfin : l.take j = l := List.take_of_length_le (by have := HM.out; omega)
      have hall := hin.out
      rw [hfin] at hall
      obtain ⟨n, hn5, rfl⟩ : ∃ n : Nat, n < 5 ∧ k = (n : Int) := by
        rcases HK.out with h | ⟨s, hs, hs'⟩
        · exact ⟨k.toNat, by omega, by omega⟩
        · rw [hall s hs] at hs'; cases hs'
      have HALL := Lib.hid hall
      clear hall hfin hin
      have c0 : wr.cell? ⟨w.heap.size, n * 2, none⟩ = some (a n) := (k0.cell _).trans (dcs_fst a b hn5)
      have c1 : wr.cell? ⟨w.heap.size, n * 2 + 1, none⟩ = some (b n) := (k0.cell _).trans (dcs_snd a b hn5)
      have hT := ((HS.out n).1).later g0
      have hS := ((HS.out n).2).later g0
      have hvl := HLS.out.later g0
      rw [← HM.out] at hvl
      obtain ⟨oa, ma, ca, ea⟩ := ha n
      obtain ⟨ob, mb, cb, eb⟩ := hb n
      rw [ea] at c0 hT
      rw [eb] at c1 hS
      have hn' : (n : Int) < 5 := by omega
      have HT := Lib.hid hT
      have HSS := Lib.hid hS
      have HVL := Lib.hid hvl
      have H0 := Lib.hid k0
      have H1 := Lib.hid k1
      have HG0 := Lib.hid g0
      have hlN := hll
      clear hT hS hvl k0 k1 g0 hB hj
      go_wp2_with fail
      refine (all_any _ _ _ (T n) l (S n) wr HT.out HSS.out HVL.out (by have := HL.out.s n; omega) (by have := HM.out; omega) (HL.out.z n) HLZ.out (HG.out.good n hn5)).mono ?_
      rintro e w4 (⟨_, hfull, hb4⟩ | ⟨_, T', ns, vT', vS', vN', hall, hA⟩)
      · have k1 := (H1.out.later hb4).alloc (.cells #[.slice none 0 0, .slice none 0 0] 25)
        have g3 := (HG0.out.trans (hb4.mono HG0.out.size)).trans ((Gr.alloc w4 (.cells #[.slice none 0 0, .slice none 0 0] 25)).below.mono (HG0.out.trans (hb4.mono HG0.out.size)).size)
        have HF := Lib.hid hfull
        clear hb4 hfull c0 c1
        obtain ⟨d0, d1, d2, d3, d4, d5, d6, d7, d8, d9⟩ := dcells k1
        have z := k1.frozen
        have l1 := k1.lt
        obtain ⟨bR, kR⟩ := dnil k1 g3 (by omega)
        obtain ⟨r0, r1, r2, r3, r4, r5, r6, r7, r8, r9⟩ := dcells kR
        have HR := Lib.hid bR
        unfold dsets at r0 r1 r2 r3 r4 r5 r6 r7 r8 r9
        clear bR kR k1 g3
        go_wp2
        exact bodyPost_ret (v := .tuple #[.agg (dcs (fun _ => nilV) (fun _ => nilV)), nilV, .int .i64 6]) (by simp [results, Try.results52, go_sem, r0, r1, r2, r3, r4, r5, r6, r7, r8, r9, dcs]) rfl (.full n _ hn5 rfl HALL.out (.inl HF.out) HR.out)
      · obtain ⟨S', o1, o2, o3, o4⟩ := hA.ex
        obtain ⟨q1, x1, rfl⟩ := o1.shape
        obtain ⟨q2, x2, rfl⟩ := o2.shape
        obtain ⟨q3, x3, rfl⟩ := hA.oN.shape
        simp only [List.length_map] at hA o1 o2 ⊢
        have g4 := HG0.out.trans (hA.low.mono HG0.out.size)
        obtain ⟨W5, hW5⟩ : ∃ W5, W5 = w4.alloc (.cells #[.slice q1 T'.length x1, .slice q2 S'.length x2] 25) := ⟨_, rfl⟩
        have g45 : Below w4.heap.size w4 W5 := by rw [hW5]; exact (Gr.alloc _ _).below
        have kt : Blk W5 w4.heap.size #[.slice q1 T'.length x1, .slice q2 S'.length x2] 25 := by rw [hW5]; exact Blk.new _ _ _
        have e5 := hW5.symm
        clear hW5
        have g5 := g4.trans (g45.mono g4.size)
        have t0 := kt.cell 0
        have t1 := kt.cell 1
        simp only [List.getElem?_toArray, List.getElem?_cons_zero, List.getElem?_cons_succ] at t0 t1
        have k1 := (H1.out.later hA.low).later g45
        have k0 := (H0.out.later hA.low).later g45
        by_cases h128 : 128 < T'.length
        · have g128 : decide ((128 : Int) < (T'.length : Int)) = true := by simp; omega
          have HAL := Lib.hid hall
          have g3 := g5
          clear hall hA o1 o2 o3 o4 kt k0 g45 g4 g5 c0 c1
          obtain ⟨d0, d1, d2, d3, d4, d5, d6, d7, d8, d9⟩ := dcells k1
          have z := k1.frozen
          have l1 := k1.lt
          obtain ⟨bR, kR⟩ := dnil k1 g3 (by omega)
          obtain ⟨r0, r1, r2, r3, r4, r5, r6, r7, r8, r9⟩ := dcells kR
          have HR := Lib.hid bR
          unfold dsets at r0 r1 r2 r3 r4 r5 r6 r7 r8 r9
          clear bR kR k1 g3
          go_wp2
          exact bodyPost_ret (v := .tuple #[.agg (dcs (fun _ => nilV) (fun _ => nilV)), nilV, .int .i64 6]) (by simp [results, Try.results52, go_sem, r0, r1, r2, r3, r4, r5, r6, r7, r8, r9, dcs]) rfl (.full n _ hn5 rfl HALL.out (.inr ⟨_, _, HAL.out, h128⟩) HR.out)
        · have g128 : decide ((128 : Int) < (T'.length : Int)) = false := by simp; omega
          obtain ⟨c0, c1, c2, c3, c4, c5, c6, c7, c8, c9⟩ := dcells k0
          have HAL := Lib.hid hall
          have HA := Lib.hid hA
          have HO1 := Lib.hid o1
          have HO2 := Lib.hid o2
          have HO3 := Lib.hid o3
          have HO4 := Lib.hid o4
          have KT := Lib.hid kt
          have HK1 := Lib.hid k1
          have G45 := Lib.hid g45
          have G5 := Lib.hid g5
          clear hall hA o1 o2 o3 o4 kt k0 k1 g45 g4 g5
          go_wp2_with fail
          refine (dcopied_any a b T S W5 (HS.out.later G5.out) HL.out).mono ?_
          rintro e w6 ⟨A, B, rfl, hO, hb6⟩
          obtain ⟨X, hX⟩ : ∃ X, X = w6.alloc (.cells (dcs A B) 28) := ⟨_, rfl⟩
          have kX : Blk X w6.heap.size (dcs A B) 28 := by rw [hX]; exact Blk.new _ _ _
          have gX : Below w6.heap.size w6 X := by rw [hX]; exact (Gr.alloc _ _).below
          have eX : w6.alloc (.cells #[A 0, B 0, A 1, B 1, A 2, B 2, A 3, B 3, A 4, B 4] 28) = X := hX.symm
          clear hX
          have g5X : Below W5.heap.size W5 X := hb6.trans (gX.mono hb6.size)
          have g4X : Below w4.heap.size w4 X := G45.out.trans (g5X.mono G45.out.size)
          have g0X : Below w.heap.size w X := G5.out.trans (g5X.mono G5.out.size)
          have kt := KT.out.later g5X
          have t0 := kt.cell 0
          have t1 := kt.cell 1
          simp only [List.getElem?_toArray, List.getElem?_cons_zero, List.getElem?_cons_succ] at t0 t1
          obtain ⟨sa, sb⟩ := hO.slA
          have hsA := fun k w p m => st_slice (P := Try.prog) sa k w p m
          have hsB := fun k w p m => st_slice (P := Try.prog) sb k w p m
          have x0 : X.cell? ⟨w6.heap.size, n * 2, none⟩ = some (A n) := (kX.cell _).trans (dcs_fst A B hn5)
          have x1' : X.cell? ⟨w6.heap.size, n * 2 + 1, none⟩ = some (B n) := (kX.cell _).trans (dcs_snd A B hn5)
          obtain ⟨oA, mA, cA, eA⟩ := sa n
          obtain ⟨oB, mB, cB, eB⟩ := sb n
          rw [eA] at x0
          rw [eB] at x1'
          have zX := kX.frozen
          have lX := kX.lt
          obtain ⟨A', hA'⟩ : ∃ A', A' = upd A n (.slice q1 T'.length x1) := ⟨_, rfl⟩
          obtain ⟨B', hB'⟩ : ∃ B', B' = upd B n (.slice q2 S'.length x2) := ⟨_, rfl⟩
          obtain ⟨X2, hX2⟩ : ∃ X2, X2 = (X.setCell ⟨w6.heap.size, n * 2, none⟩ (.slice q1 T'.length x1)).setCell ⟨w6.heap.size, n * 2 + 1, none⟩ (.slice q2 S'.length x2) := ⟨_, rfl⟩
          have kX1 := kX.set (n * 2) (.slice q1 T'.length x1)
          have kX2 : Blk X2 w6.heap.size (dcs A' B') 28 := by
            have := kX1.set (n * 2 + 1) (.slice q2 S'.length x2)
            rw [dcs_set_fst _ _ hn5, dcs_set_snd _ _ hn5, ← hA', ← hB', ← hX2] at this
            exact this
          have hwo : W5.heap.size ≤ w6.heap.size := hb6.size
          have kr := HK1.out.later g5X
          have hr6 : w.heap.size + 1 < w6.heap.size := (HK1.out.later hb6).lt
          have kr2 : Blk X2 (w.heap.size + 1) (dcs (fun _ => nilV) (fun _ => nilV)) 28 := by
            rw [hX2]; exact (kr.other (p := ⟨w6.heap.size, n * 2, none⟩) (by simp; omega) _).other (by simp; omega) _
          have g02 : Below w.heap.size w X2 := by
            rw [hX2]; exact (g0X.setCell (by simp; omega) _).setCell (by simp; omega) _
          have hs4 : w.heap.size ≤ wr.heap.size := HG0.out.size
          have oX2 : DOw 9 3 w.heap.size X2 A' B' (upd (fst T 5) n T') (upd (fst S 5) n S') := by
            rw [hX2, hA', hB']
            have o := ((hO.later gX).mono G5.out.size).upd (n := n) ((HO1.out.later g4X).mono hs4) ((HO2.out.later g4X).mono hs4)
            exact (o.set_blk kX (by decide) (by decide) _ _).set_blk kX1 (by decide) (by decide) _ _
          have nX2 : Ow 3 w.heap.size X2 (.slice q3 ns.length x3) (ns.map (Value.int .i64)) := by
            rw [hX2]
            exact (((HA.out.oN.later g4X).mono hs4).set_blk kX (by decide) _ _).set_blk kX1 (by decide) _ _
          obtain ⟨sa', sb'⟩ := oX2.slA
          have hsa := fun k w p m => st_slice (P := Try.prog) sa' k w p m
          have hsb := fun k w p m => st_slice (P := Try.prog) sb' k w p m
          have KX2 := Lib.hid kX2
          have KR2 := Lib.hid kr2
          have kR := dsets_blk kr2 A' B'
          have KRR := Lib.hid (dcells kR)
          have HSA := Lib.hid hsa
          have HSB := Lib.hid hsb
          have HR := Lib.hid (And.intro (oX2.dsets kr2 (by decide) (by decide) A' B') (And.intro (nX2.dsets kr2 (by decide) A' B') (dsets_below g02 (g := w.heap.size + 1) (by omega) A' B')))
          have eX2 := hX2.symm
          clear hX2 hA' hB' kX kX1 kX2 kr kr2 g02 oX2 nX2 kR hO hb6 gX g5X g4X g0X kt c0 c1 c2 c3 c4 c5 c6 c7 c8 c9 eA eB ea eb sa sb sa' sb' hsa hsb
          simp only [dcs]
          go_upto_region 14 with (fail)
          clear hsA hsB eX eX2 x0 x1' t0 t1 zX lX
          obtain ⟨y0, y1, y2, y3, y4, y5, y6, y7, y8, y9⟩ := dcells KX2.out
          obtain ⟨d0, d1, d2, d3, d4, d5, d6, d7, d8, d9⟩ := dcells KR2.out
          have z2 := KR2.out.frozen
          have l2 := KR2.out.lt
          have hsa := HSA.out
          have hsb := HSB.out
          go_wp2
          obtain ⟨r0, r1, r2, r3, r4, r5, r6, r7, r8, r9⟩ := KRR.out
          unfold dsets at r0 r1 r2 r3 r4 r5 r6 r7 r8 r9 HR
          exact bodyPost_ret (v := .tuple #[.agg (dcs A' B'), .slice q3 ns.length x3, .int .i64 0]) (by simp only [results, Try.results52]; simp [go_sem, r0, r1, r2, r3, r4, r5, r6, r7, r8, r9, dcs]) rfl (.ok n _ T' S' ns A' B' _ hn5 rfl HALL.out HAL.out (by omega) HO3.out HO4.out HR.out.1 HR.out.2.1 HR.out.2.2)
end Go.Proofs.Ytmghbejbdkoehaa

