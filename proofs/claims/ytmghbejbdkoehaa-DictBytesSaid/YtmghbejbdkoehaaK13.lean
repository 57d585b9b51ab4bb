/- dict.Read: the walk. -/
import Derived.Test.YtmghbejbdkoehaaMk
namespace Go.Proofs.Kit
open Go.RowKit
theorem rj_start {tD ts ti : TypeId} {w w1 : World} {a b : Nat → Value} (ho : DOw ts ti w.heap.size w1 a b (fun _ => []) newS) (k4 : Blk w1 w.heap.size (dcs (fun _ => nilV) (fun _ => nilV)) tD) (hb : Below w.heap.size w w1) (hg : w.heap.size < w1.heap.size) :
    RJ tD ts ti hsh w w1.heap.size [] a b newS (w1.alloc (.cells (dcs a b) tD)) := by
  refine ⟨k4.alloc _, Blk.new _ _ _, (ho.later (Gr.alloc _ _).below).congr (fun k => (ofL_none [] k (by simp)).symm) (fun _ => rfl), dgood_iff.2 fun k hk => ?_, ⟨fun k => ?_, fun k => ?_, fun k => ?_⟩, hb.trans ((Gr.alloc _ _).below.mono hb.size), hg⟩
  · refine ⟨?_, ?_, ?_⟩
    · rw [ofL_none [] k (by simp)]; unfold newS; rw [if_pos hk]; exact good_new
    · rw [ofL_none [] k (by simp)]; simp
    · rw [ofL_none [] k (by simp)]; simp
  · rw [ofL_none [] k (by simp)]; simp
  · unfold newS; split <;> simp
  · rw [ofL_none [] k (by simp)]; simp
end Go.Proofs.Kit
namespace Go.Proofs.Ytmghbejbdkoehaa
open Go.RowKit Go.Proofs.Kit Go.Shelf

/-- What Read comes to, at a place that there is. -/
inductive DReadP (w : World) (bs : List Int) (p : Nat) : Ending → World → Prop
  | no (w' : World) (h : rdDict bs p = none) (hb : Below w.heap.size w w') : DReadP w bs p (.returned (.tuple #[.agg (dcs (fun _ => nilV) (fun _ => nilV)), .int .i64 0, .int .i64 160])) w'
  | ok (w' : World) (L : List (List ByteArray)) (q : Nat) (S : Nat → List Int) (A B : Nat → Value) (h : rdDict bs p = some (L, q)) (ho : DOw 9 3 w.heap.size w' A B (ofL L) S) (hg : DGood hsh (ofL L) S) (hl : DLim (ofL L) S) (hb : Below w.heap.size w w') : DReadP w bs p (.returned (.tuple #[.agg (dcs A B), .int .i64 (q : Nat), .int .i64 0])) w'

set_option maxRecDepth 100000 in
set_option maxHeartbeats 1000000 in
theorem dread_arg (at_ : Int) (bv : Value) (bs : List Int) (w : World) (hs : Seg .u8 w bv bs) (ha : at_ < 0 ∨ (bs.length : Int) < at_) :
    Calls Try.prog 34 #[bv, .int .i64 at_] w fun e w' => e = .returned (.tuple #[.agg (dcs (fun _ => nilV) (fun _ => nilV)), .int .i64 0, .int .i64 2]) ∧ Below w.heap.size w w' := by
  obtain ⟨ob, cb, rfl, _, _, _⟩ := hs.shape
  obtain ⟨nb, hnb⟩ : ∃ nb, nb = bs.length := ⟨_, rfl⟩
  rw [← hnb] at ha ⊢
  clear hs hnb
  by_cases h1 : at_ < 0
  · have g1 : decide (at_ < 0) = true := by simpa using h1
    go_enter Try.func34, Try.ntmps34
    go_wp2
    exact bodyPost_ret (v := .tuple #[.agg (dcs (fun _ => nilV) (fun _ => nilV)), .int .i64 0, .int .i64 2]) (by simp [results, Try.results34, go_sem, dcs]) rfl ⟨rfl, (Gr.alloc _ _).below⟩
  · have g1 : decide (at_ < 0) = false := by simpa using h1
    have g2 : decide ((nb : Int) < at_) = true := by simp; omega
    go_enter Try.func34, Try.ntmps34
    go_wp2
    exact bodyPost_ret (v := .tuple #[.agg (dcs (fun _ => nilV) (fun _ => nilV)), .int .i64 0, .int .i64 2]) (by simp [results, Try.results34, go_sem, dcs]) rfl ⟨rfl, (Gr.alloc _ _).below⟩

set_option maxRecDepth 100000 in
set_option maxHeartbeats 4000000 in
theorem dread_any (p : Nat) (bv : Value) (bs : List Int) (w : World) (hs : Seg .u8 w bv bs) (hb : Byt bs) (hl : bs.length ≤ 1000000000) (hp : p ≤ bs.length) :
    Calls Try.prog 34 #[bv, .int .i64 (p : Int)] w (DReadP w bs p) := by
  have HSG := Lib.hid hs
  have HBY := Lib.hid hb
  obtain ⟨ob, cb, rfl, _, _, _⟩ := hs.shape
  obtain ⟨nb, hnb⟩ : ∃ nb, nb = bs.length := ⟨_, rfl⟩
  have HNB := Lib.hid hnb
  rw [← hnb] at hl hp ⊢
  clear hs hb hnb
  have g1 : decide ((p : Int) < 0) = false := decide_eq_false (by omega)
  have g2 : decide ((nb : Int) < (p : Int)) = false := decide_eq_false (by omega)
  go_enter Try.func34, Try.ntmps34
  go_wp2_with fail
  have k40 : Blk (w.alloc (.cells (dcs (fun _ => nilV) (fun _ => nilV)) 28)) w.heap.size (dcs (fun _ => nilV) (fun _ => nilV)) 28 := Blk.new _ _ _
  have K40 := Lib.hid k40
  clear k40
  refine (dnew_any _).mono ?_
  rintro e w1 ⟨a0, b0, rfl, ho0, hb0⟩
  have hsz := hb0.size
  simp only [World.size_alloc] at hsz
  have hb1 : Below w.heap.size w w1 := (Gr.alloc w (.cells (dcs (fun _ => nilV) (fun _ => nilV)) 28)).below.trans (hb0.mono (by simp))
  have R0 := rj_start (tD := 28) (w := w) (ho0.mono (by simp)) (K40.out.later hb0) hb1 (by omega)
  obtain ⟨sa, sb⟩ := ho0.slA
  have hsa := fun k w p m => st_slice (P := Try.prog) sa k w p m
  have hsb := fun k w p m => st_slice (P := Try.prog) sb k w p m
  obtain ⟨X, hX⟩ : ∃ X, X = w1.alloc (.cells (dcs a0 b0) 28) := ⟨_, rfl⟩
  rw [← hX] at R0
  have eX : w1.alloc (.cells #[a0 0, b0 0, a0 1, b0 1, a0 2, b0 2, a0 3, b0 3, a0 4, b0 4] 28) = X := hX.symm
  have HR0 := Lib.hid R0
  obtain ⟨gb, hgb⟩ : ∃ gb, gb = w1.heap.size := ⟨_, rfl⟩
  clear hX R0 sa sb ho0 hb0 hb1 K40
  simp only [dcs]
  go_wp2
  rw [← hgb] at HR0 ⊢
  clear hsa hsb eX hgb
  go_loopw [8, 9, 10, 11, 12, 24] (fun nx _ _ _ _ i wr => ∃ (j z : Nat) (L : List (List ByteArray)) (A B : Nat → Value) (S : Nat → List Int), j ≤ 5 ∧ i = .int .i64 (j : Int) ∧ nx = .int .i64 (z : Int) ∧ z ≤ nb ∧ L.length = j ∧ Hid (rdDict bs p = (rdKinds bs (5 - j) j z).map fun r => (L ++ r.1, r.2)) ∧ Hid (RJ 28 9 3 hsh w gb L A B S wr)) (fun _ _ _ _ _ i _ => 5 - (intOf i).toNat)
  case atStart => exact ⟨0, p, [], a0, b0, newS, by omega, rfl, rfl, hp, rfl, Lib.hid (by simp [rdDict]), HR0⟩
  case round =>
    obtain ⟨j, z, L, A, B, S, hj, rfl, rfl, hz, hLl, HT, HJ⟩ := hrel
    have HLL := Lib.hid hLl
    clear hLl HR0
    by_cases hlt : j < 5
    · have hjj : (j : Int) < 5 := by omega
      have h5 : 5 - j = (5 - (j + 1)) + 1 := by omega
      go_wp2_with fail
      rw [HNB.out]
      refine (readNames_any z _ bs wr (HSG.out.later HJ.out.low) HBY.out (by have := HNB.out; omega) (by have := HNB.out; omega)).mono ?_
      rw [← HNB.out]
      rintro e w3 ⟨hB3, ⟨l, q, v, hr, rfl, hO⟩ | ⟨c, hc, hr, rfl⟩⟩
      · have hkn := rdNames_some HBY.out hr
        have J3 := HJ.out.later hB3
        have hvl := hO.sl
        obtain ⟨ol, cl, rfl⟩ := hO.shape
        rw [List.length_map] at hvl ⊢
        obtain ⟨c0, c1, c2, c3, c4, c5, c6, c7, c8, c9⟩ := dcells J3.k7
        have HJ3 := Lib.hid J3
        have HVL := Lib.hid hvl
        have HRN := Lib.hid hr
        have hqb : q ≤ nb := by have := HNB.out; omega
        have HKN := Lib.hid hkn
        clear J3 hvl hr hkn hO
        go_wp2_with fail
        refine (dwith_any A B (ofL L) S w3 HJ3.out.ow.sl HJ3.out.lim HJ3.out.good (j : Int) _ l HVL.out (by have := HKN.out.1; omega) (fun s hs => by have := HKN.out.2.2.2 s hs; omega) (.inl ⟨by omega, by omega⟩)).mono ?_
        clear c0 c1 c2 c3 c4 c5 c6 c7 c8 c9
        rintro e w4 hW
        have hlj : ofL L j = [] := ofL_none L j (by rw [HLL.out]; exact Nat.le_refl _)
        have hall := allL_spec l (by have := HKN.out.1; omega)
        obtain ⟨T1, ns1, hal, hal2⟩ := hall
        have hgb : gb ≠ w.heap.size := by have := HJ3.out.hg; omega
        cases hW with
        | full n _ hn hk hm hf hb =>
          exfalso
          obtain rfl : n = j := by omega
          rw [hlj, hal] at hf
          rcases hf with hf | ⟨T', ns, hf, h128⟩
          · cases hf
          · injection hf with hf
            injection hf with hf _
            subst hf
            have := HKN.out.1
            rcases hal2 with ⟨h1, _⟩ | ⟨h1, _⟩
            · rw [h1] at h128; omega
            · omega
        | arg _ hm hb =>
          have hres : rdDict bs p = none := by
            obtain ⟨s, hs, hs'⟩ := hm
            rw [HT.out, h5, rdKinds_no HRN.out (fun e => by have := e.1 s hs; rw [hs'] at this; cases this)]
            rfl
          have HRES := Lib.hid hres
          have J4 := HJ3.out.later hb
          obtain ⟨c0, c1, c2, c3, c4, c5, c6, c7, c8, c9⟩ := dcells J4.k7
          have z7 := J4.k7.frozen
          have l7 := J4.k7.lt
          obtain ⟨X1, hX1⟩ : ∃ X1, X1 = dsets w4 gb (fun _ => nilV) (fun _ => nilV) := ⟨_, rfl⟩
          have k4 : Blk X1 w.heap.size (dcs (fun _ => nilV) (fun _ => nilV)) 28 := by rw [hX1]; exact dsets_other J4.k4 hgb.symm _ _
          have g3 : Below w.heap.size w X1 := by rw [hX1]; exact dsets_below J4.low (by have := HJ3.out.hg; omega) _ _
          have eX1 := hX1.symm
          simp only [dsets, nilV] at eX1
          clear hres J4 hb hm hX1
          simp only [dcs, nilV]
          obtain ⟨d0, d1, d2, d3, d4, d5, d6, d7, d8, d9⟩ := dcells k4
          have z4 := k4.frozen
          have l4 := k4.lt
          obtain ⟨bR, kR⟩ := dnil k4 g3 (by omega)
          have KRR := Lib.hid (dcells kR)
          have HR := Lib.hid bR
          clear bR kR k4 g3
          go_wp2
          obtain ⟨r0, r1, r2, r3, r4, r5, r6, r7, r8, r9⟩ := KRR.out
          unfold dsets at r0 r1 r2 r3 r4 r5 r6 r7 r8 r9
          exact bodyPost_ret (v := .tuple #[.agg (dcs (fun _ => nilV) (fun _ => nilV)), .int .i64 0, .int .i64 160]) (by simp [results, Try.results34, go_sem, r0, r1, r2, r3, r4, r5, r6, r7, r8, r9, dcs]) rfl (.no _ HRES.out HR.out)
        | ok n _ T' S' ns A' B' vN hn hk hm hal3 hT hgd hSl hO hN hb =>
          obtain rfl : n = j := by omega
          rw [hlj, hal] at hal3
          injection hal3 with hal3
          injection hal3 with hal3 _
          subst hal3
          have J4 := HJ3.out.later hb
          obtain ⟨sa, sb⟩ := hO.slA
          have hsa := fun k w p m => st_slice (P := Try.prog) sa k w p m
          have hsb := fun k w p m => st_slice (P := Try.prog) sb k w p m
          obtain ⟨c0, c1, c2, c3, c4, c5, c6, c7, c8, c9⟩ := dcells J4.k7
          have z7 := J4.k7.frozen
          have l7 := J4.k7.lt
          obtain ⟨X1, hX1⟩ : ∃ X1, X1 = dsets w4 gb A' B' := ⟨_, rfl⟩
          have kb : Blk X1 gb (dcs A' B') 28 := by rw [hX1]; exact dsets_blk J4.k7 _ _
          have x0 : X1.cell? ⟨gb, n * 2, none⟩ = some (A' n) := (kb.cell _).trans (dcs_fst A' B' hn)
          obtain ⟨o1, q1, e1⟩ := (hO n).1.shape
          rw [upd_same, List.length_map] at e1
          rw [e1] at x0
          have hw3 : w.heap.size ≤ w3.heap.size := HJ3.out.low.size
          have HO := Lib.hid (hO.mono hw3)
          have HM := Lib.hid hm
          have HGD := Lib.hid (And.intro hgd hSl)
          by_cases hlen : T1.length < l.length
          · have hnd : ¬ l.Nodup := by
              rcases hal2 with ⟨h1, _⟩ | ⟨_, h2⟩
              · rw [h1] at hlen; omega
              · exact h2
            have hres : rdDict bs p = none := by
              rw [HT.out, h5, rdKinds_no HRN.out (fun e => hnd e.2)]
              rfl
            have HRES := Lib.hid hres
            have k4 : Blk X1 w.heap.size (dcs (fun _ => nilV) (fun _ => nilV)) 28 := by rw [hX1]; exact dsets_other J4.k4 hgb.symm _ _
            have g3 : Below w.heap.size w X1 := by rw [hX1]; exact dsets_below J4.low (by have := HJ3.out.hg; omega) _ _
            have eX1 := hX1.symm
            unfold dsets at eX1
            have hlt2 : (T1.length : Int) < (l.length : Int) := by omega
            clear hres J4 hb hm hX1 kb hO hN sa sb hgd hSl hal hal2 hnd hT
            simp only [dcs]
            obtain ⟨d0, d1, d2, d3, d4, d5, d6, d7, d8, d9⟩ := dcells k4
            have z4 := k4.frozen
            have l4 := k4.lt
            obtain ⟨bR, kR⟩ := dnil k4 g3 (by omega)
            have KRR := Lib.hid (dcells kR)
            have HR := Lib.hid bR
            clear bR kR k4 g3
            go_wp2
            obtain ⟨r0, r1, r2, r3, r4, r5, r6, r7, r8, r9⟩ := KRR.out
            unfold dsets at r0 r1 r2 r3 r4 r5 r6 r7 r8 r9
            exact bodyPost_ret (v := .tuple #[.agg (dcs (fun _ => nilV) (fun _ => nilV)), .int .i64 0, .int .i64 160]) (by simp [results, Try.results34, go_sem, r0, r1, r2, r3, r4, r5, r6, r7, r8, r9, dcs]) rfl (.no _ HRES.out HR.out)
          · have hnd : T1 = l ∧ l.Nodup := by
              rcases hal2 with h | ⟨h1, _⟩
              · exact h
              · omega
            obtain ⟨rfl, hnd⟩ := hnd
            have hT' : rdDict bs p = (rdKinds bs (5 - (n + 1)) (n + 1) q).map fun r => ((L ++ [T1]) ++ r.1, r.2) := by
              rw [HT.out, h5, rdKinds_ok HRN.out HM.out hnd, Option.map_map]
              congr 1
              funext r
              simp
            have hfst : ∀ k, fst (ofL L) 5 k = ofL L k := fun k => by
              unfold fst
              split
              · rfl
              · exact (ofL_none L k (by rw [HLL.out]; omega)).symm
            have hcg : ∀ k, upd (fst (ofL L) 5) n T1 k = ofL (L ++ [T1]) k := fun k => by
              rw [← ofL_snoc L T1 HLL.out k]
              by_cases e : k = n
              · subst e; rw [upd_same, upd_same]
              · rw [upd_ne _ _ e, upd_ne _ _ e, hfst]
            have hfe : upd (fst (ofL L) 5) n T1 = ofL (L ++ [T1]) := funext hcg
            have g1 := upd_good J4.good hn hgd hT hm
            have g2 := upd_lim J4.lim hT hSl (fun x hx => by have := mayB_size (hm x hx); omega)
            have o3 := (hO.mono hw3)
            rw [hfe] at g1 g2 o3
            have J5 := J4.put (A' := A') (B' := B') o3 g1 g2 (by decide) (by decide)
            rw [← hX1] at J5
            have HJ5 := Lib.hid J5
            have HT' := Lib.hid hT'
            have eX1 := hX1.symm
            unfold dsets at eX1
            clear hT' hfst hcg hfe g1 g2 o3 J5 J4 hb hm hX1 kb hO hN sa sb hgd hSl hal hal2 hT
            simp only [dcs]
            go_wp2
            go_roundw
            case rel => exact ⟨_, _, .int .i64 (q : Nat), .int .i64 (n : Nat), .slice ol T1.length cl, .int .i64 (q : Nat), .int .i64 0, .int .i64 ((n + 1 : Nat) : Int), ⟨n + 1, by omega, rfl, q, rfl, hqb, L ++ [T1], by simp [HLL.out], HT', A', B', _, HJ5⟩, rfl, rfl, rfl, rfl, rfl, rfl, rfl, by simp⟩
            case measure => simp [intOf]; omega
      · have hres : rdDict bs p = none := by rw [HT.out, h5, rdKinds_none hr]; rfl
        have HRES := Lib.hid hres
        have hcn : (c != 0) = true := by simpa using hc
        have J3 := HJ.out.later hB3
        have k4 := J3.k4
        have g3 := J3.low
        clear hres hr J3 hB3
        obtain ⟨d0, d1, d2, d3, d4, d5, d6, d7, d8, d9⟩ := dcells k4
        have z4 := k4.frozen
        have l4 := k4.lt
        obtain ⟨bR, kR⟩ := dnil k4 g3 (by omega)
        have KRR := Lib.hid (dcells kR)
        have HR := Lib.hid bR
        clear bR kR k4 g3
        go_wp2
        obtain ⟨r0, r1, r2, r3, r4, r5, r6, r7, r8, r9⟩ := KRR.out
        unfold dsets at r0 r1 r2 r3 r4 r5 r6 r7 r8 r9
        exact bodyPost_ret (v := .tuple #[.agg (dcs (fun _ => nilV) (fun _ => nilV)), .int .i64 0, .int .i64 160]) (by simp [results, Try.results34, go_sem, r0, r1, r2, r3, r4, r5, r6, r7, r8, r9, dcs]) rfl (.no _ HRES.out HR.out)
    · obtain rfl : j = 5 := by omega
      have hres : rdDict bs p = some (L, z) := by rw [HT.out]; simp [rdKinds]
      have HRES := Lib.hid hres
      obtain ⟨c0, c1, c2, c3, c4, c5, c6, c7, c8, c9⟩ := dcells HJ.out.k7
      obtain ⟨d0, d1, d2, d3, d4, d5, d6, d7, d8, d9⟩ := dcells HJ.out.k4
      have z4 := HJ.out.k4.frozen
      have l4 := HJ.out.k4.lt
      obtain ⟨sa, sb⟩ := HJ.out.ow.slA
      have hsa := fun k w p m => st_slice (P := Try.prog) sa k w p m
      have hsb := fun k w p m => st_slice (P := Try.prog) sb k w p m
      have kR := dsets_blk HJ.out.k4 A B
      have KRR := Lib.hid (dcells kR)
      have HR := Lib.hid (And.intro (HJ.out.ow.dsets HJ.out.k4 (by decide) (by decide) A B) (dsets_below HJ.out.low (Nat.le_refl _) A B))
      clear hres kR sa sb
      go_wp2
      obtain ⟨r0, r1, r2, r3, r4, r5, r6, r7, r8, r9⟩ := KRR.out
      unfold dsets at r0 r1 r2 r3 r4 r5 r6 r7 r8 r9 HR
      exact bodyPost_ret (v := .tuple #[.agg (dcs A B), .int .i64 (z : Nat), .int .i64 0]) (by simp [results, Try.results34, go_sem, r0, r1, r2, r3, r4, r5, r6, r7, r8, r9, dcs]) rfl (.ok _ L z S A B HRES.out HR.out.1 HJ.out.good HJ.out.lim HR.out.2)
end Go.Proofs.Ytmghbejbdkoehaa

