/- Tables laid anew: copied, wider. -/
import Derived.Test.YtmghbejbdkoehaaJ7
import Derived.BigRegion
namespace Go.Proofs.Kit
open Go.RowKit
theorem made_rep (z : Value) (n : Nat) : madeCells #[z] n = (List.replicate n z).toArray := by
  apply Array.ext
  · simp [size_madeCells]
  · intro i h1 h2
    have e : i % 1 = 0 := Nat.mod_one i
    simp [madeCells, e]
theorem Ow.of_rep {w : World} {b q B : Nat} {z : Value} {t : TypeId} (hb : Blk w b (Array.replicate q z) t) (hB : B ≤ b) (hq : q ≤ 1000000000) : Ow t B w (.slice (some ⟨b, 0, none⟩) q q) (List.replicate q z) := by
  refine ⟨by simp, .inr ⟨b, q, _, by simp, hB, hb, by simp, by unfold maxLen; omega, by simp, ?_⟩⟩
  simp
theorem Ow.low_set {w : World} {B : Nat} {v : Value} {l : List Value} {t : TypeId} (h : Ow t B w v l) {p : Addr} (hp : p.block < B) (u : Value) : Ow t B (w.setCell p u) v l :=
  h.same fun g hg => Below.heap_setCell _ _ _ _ (by have := (h.lt g hg).1; omega)
theorem blks3 (w : World) (v1 v2 v3 : Array Value) (t1 t2 t3 : TypeId) :
    Blk (((w.alloc (.cells v1 t1)).alloc (.cells v2 t2)).alloc (.cells v3 t3)).drew w.heap.size v1 t1 ∧ Blk (((w.alloc (.cells v1 t1)).alloc (.cells v2 t2)).alloc (.cells v3 t3)).drew (w.heap.size + 1) v2 t2 ∧
      Blk (((w.alloc (.cells v1 t1)).alloc (.cells v2 t2)).alloc (.cells v3 t3)).drew (w.heap.size + 1 + 1) v3 t3 ∧ Below w.heap.size w (((w.alloc (.cells v1 t1)).alloc (.cells v2 t2)).alloc (.cells v3 t3)).drew := by
  have h1 := Blk.new w v1 t1
  have h2 := Blk.new (w.alloc (.cells v1 t1)) v2 t2
  have h3 := Blk.new ((w.alloc (.cells v1 t1)).alloc (.cells v2 t2)) v3 t3
  simp only [World.size_alloc] at h2 h3
  exact ⟨((h1.alloc _).alloc _).drew, (h2.alloc _).drew, h3.drew, ((((Below.refl _ w).alloc (Nat.le_refl _) _).alloc (by simp) _).alloc (by simp; omega) _).drew⟩
/-- A new table: its record, its texts, its slots; all else lies as it lay. -/
structure NewT (tt ts ti : TypeId) (w0 : World) (b : Nat) (vT vS : Value) (lT lS : List Value) (W : World) : Prop where
  kb : Blk W b #[vT, vS] tt
  oT : Ow ts w0.heap.size W vT lT
  oS : Ow ti w0.heap.size W vS lS
  low : Below w0.heap.size w0 W
  ge : w0.heap.size ≤ b
section
variable {tt ts ti : TypeId} {w0 W W' : World} {b : Nat} {vT vS : Value} {lT lS l' : List Value}
theorem NewT.grownT (h : NewT tt ts ti w0 b vT vS lT lS W) (hO : Ow ts w0.heap.size W' vT l') (hg : W.grownBy W' vT.ownBlock) (h1 : ts ≠ tt) (h2 : ts ≠ ti) : NewT tt ts ti w0 b vT vS l' lS W' :=
  ⟨h.kb.grown hg (h.oT.ne_blk h.kb h1), hO, h.oS.same fun g hg' => hg.block g (h.oS.lt g hg').2 (fun e => h.oT.ne_ow h.oS h2 g e.symm hg'), h.low.grown hg h.low.size (fun g hg' => (h.oT.lt g hg').1), h.ge⟩
theorem NewT.grownS (h : NewT tt ts ti w0 b vT vS lT lS W) (hO : Ow ti w0.heap.size W' vS l') (hg : W.grownBy W' vS.ownBlock) (h1 : ti ≠ tt) (h2 : ti ≠ ts) : NewT tt ts ti w0 b vT vS lT l' W' :=
  ⟨h.kb.grown hg (h.oS.ne_blk h.kb h1), h.oT.same fun g hg' => hg.block g (h.oT.lt g hg').2 (fun e => h.oS.ne_ow h.oT h2 g e.symm hg'), hO, h.low.grown hg h.low.size (fun g hg' => (h.oS.lt g hg').1), h.ge⟩
end
theorem newT_TSR (tt ts ti : TypeId) (W : World) {q m : Nat} (hq : q ≤ 1000000000) (hm : m ≤ 1000000000) (z z' : Value) : NewT tt ts ti W (W.heap.size + 1 + 1) (.slice (some ⟨W.heap.size, 0, none⟩) q q) (.slice (some ⟨W.heap.size + 1, 0, none⟩) m m) (List.replicate q z) (List.replicate m z')
    (((W.alloc (.cells (Array.replicate q z) ts)).alloc (.cells (Array.replicate m z') ti)).alloc (.cells #[.slice (some ⟨W.heap.size, 0, none⟩) q q, .slice (some ⟨W.heap.size + 1, 0, none⟩) m m] tt)).drew := by
  obtain ⟨h1, h2, h3, h4⟩ := blks3 W _ _ _ _ _ _
  exact ⟨h3, Ow.of_rep h1 (by omega) hq, Ow.of_rep h2 (by omega) hm, h4, by omega⟩
theorem newT_TRS (tt ts ti : TypeId) (W : World) {q m : Nat} (hq : q ≤ 1000000000) (hm : m ≤ 1000000000) (z z' : Value) : NewT tt ts ti W (W.heap.size + 1) (.slice (some ⟨W.heap.size, 0, none⟩) q q) (.slice (some ⟨W.heap.size + 1 + 1, 0, none⟩) m m) (List.replicate q z) (List.replicate m z')
    (((W.alloc (.cells (Array.replicate q z) ts)).alloc (.cells #[.slice (some ⟨W.heap.size, 0, none⟩) q q, .slice (some ⟨W.heap.size + 1 + 1, 0, none⟩) m m] tt)).alloc (.cells (Array.replicate m z') ti)).drew := by
  obtain ⟨h1, h2, h3, h4⟩ := blks3 W _ _ _ _ _ _
  exact ⟨h2, Ow.of_rep h1 (by omega) hq, Ow.of_rep h3 (by omega) hm, h4, by omega⟩
theorem newT_STR (tt ts ti : TypeId) (W : World) {q m : Nat} (hq : q ≤ 1000000000) (hm : m ≤ 1000000000) (z z' : Value) : NewT tt ts ti W (W.heap.size + 1 + 1) (.slice (some ⟨W.heap.size + 1, 0, none⟩) q q) (.slice (some ⟨W.heap.size, 0, none⟩) m m) (List.replicate q z) (List.replicate m z')
    (((W.alloc (.cells (Array.replicate m z') ti)).alloc (.cells (Array.replicate q z) ts)).alloc (.cells #[.slice (some ⟨W.heap.size + 1, 0, none⟩) q q, .slice (some ⟨W.heap.size, 0, none⟩) m m] tt)).drew := by
  obtain ⟨h1, h2, h3, h4⟩ := blks3 W _ _ _ _ _ _
  exact ⟨h3, Ow.of_rep h2 (by omega) hq, Ow.of_rep h1 (by omega) hm, h4, by omega⟩
theorem newT_SRT (tt ts ti : TypeId) (W : World) {q m : Nat} (hq : q ≤ 1000000000) (hm : m ≤ 1000000000) (z z' : Value) : NewT tt ts ti W (W.heap.size + 1) (.slice (some ⟨W.heap.size + 1 + 1, 0, none⟩) q q) (.slice (some ⟨W.heap.size, 0, none⟩) m m) (List.replicate q z) (List.replicate m z')
    (((W.alloc (.cells (Array.replicate m z') ti)).alloc (.cells #[.slice (some ⟨W.heap.size + 1 + 1, 0, none⟩) q q, .slice (some ⟨W.heap.size, 0, none⟩) m m] tt)).alloc (.cells (Array.replicate q z) ts)).drew := by
  obtain ⟨h1, h2, h3, h4⟩ := blks3 W _ _ _ _ _ _
  exact ⟨h2, Ow.of_rep h3 (by omega) hq, Ow.of_rep h1 (by omega) hm, h4, by omega⟩
theorem newT_RTS (tt ts ti : TypeId) (W : World) {q m : Nat} (hq : q ≤ 1000000000) (hm : m ≤ 1000000000) (z z' : Value) : NewT tt ts ti W (W.heap.size) (.slice (some ⟨W.heap.size + 1, 0, none⟩) q q) (.slice (some ⟨W.heap.size + 1 + 1, 0, none⟩) m m) (List.replicate q z) (List.replicate m z')
    (((W.alloc (.cells #[.slice (some ⟨W.heap.size + 1, 0, none⟩) q q, .slice (some ⟨W.heap.size + 1 + 1, 0, none⟩) m m] tt)).alloc (.cells (Array.replicate q z) ts)).alloc (.cells (Array.replicate m z') ti)).drew := by
  obtain ⟨h1, h2, h3, h4⟩ := blks3 W _ _ _ _ _ _
  exact ⟨h1, Ow.of_rep h2 (by omega) hq, Ow.of_rep h3 (by omega) hm, h4, by omega⟩
theorem newT_RST (tt ts ti : TypeId) (W : World) {q m : Nat} (hq : q ≤ 1000000000) (hm : m ≤ 1000000000) (z z' : Value) : NewT tt ts ti W (W.heap.size) (.slice (some ⟨W.heap.size + 1 + 1, 0, none⟩) q q) (.slice (some ⟨W.heap.size + 1, 0, none⟩) m m) (List.replicate q z) (List.replicate m z')
    (((W.alloc (.cells #[.slice (some ⟨W.heap.size + 1 + 1, 0, none⟩) q q, .slice (some ⟨W.heap.size + 1, 0, none⟩) m m] tt)).alloc (.cells (Array.replicate m z') ti)).alloc (.cells (Array.replicate q z) ts)).drew := by
  obtain ⟨h1, h2, h3, h4⟩ := blks3 W _ _ _ _ _ _
  exact ⟨h1, Ow.of_rep h3 (by omega) hq, Ow.of_rep h2 (by omega) hm, h4, by omega⟩
end Go.Proofs.Kit
namespace Go.Proofs.Ytmghbejbdkoehaa
open Go.RowKit Go.Proofs.Kit Go.Shelf

theorem sizeS : (Try.prog.info? 9).map (·.size) = some 1 := by kernel_rfl
theorem sizeI : (Try.prog.info? 3).map (·.size) = some 1 := by kernel_rfl
theorem mkS (n : Nat) (hn : n ≤ 1000000000) (W : World) : (Instr.makeSlice 22 (.int .i64 (n : Int)) (.int .i64 (n : Int))).run Try.prog W = .ok (.slice (some ⟨W.heap.size, 0, none⟩) n n) (W.alloc (.cells (List.replicate n (Value.string ⟨#[]⟩)).toArray 9)) := by
  obtain ⟨i0, hi, hz0, hz1, hz2⟩ := infos
  have := run_make W 22 9 i0 _ Try.underlying22 hi hz0 .i64 .i64 (n : Int) (n : Int) (by omega) (by omega) (by rw [hz2]; omega) (by omega)
  rw [hz1, Nat.mul_one] at this
  simpa [made_rep, Value.cells] using this
theorem mkI (n : Nat) (hn : n ≤ 1000000000) (W : World) : (Instr.makeSlice 23 (.int .i64 (n : Int)) (.int .i64 (n : Int))).run Try.prog W = .ok (.slice (some ⟨W.heap.size, 0, none⟩) n n) (W.alloc (.cells (List.replicate n (Value.int .i64 0)).toArray 3)) := by
  obtain ⟨i0, hi, hz0, hz1, hz2⟩ := infoi
  have := run_make W 23 3 i0 _ Try.underlying23 hi hz0 .i64 .i64 (n : Int) (n : Int) (by omega) (by omega) (by rw [hz2]; omega) (by omega)
  rw [hz1, Nat.mul_one] at this
  simpa [made_rep, Value.cells] using this

set_option maxRecDepth 100000 in
set_option maxHeartbeats 1000000 in
theorem copied_any (vT vS : Value) (T : List ByteArray) (S : List Int) (w : World) (hT : Sl w vT (T.map Value.string)) (hS : Sl w vS (S.map (Value.int .i64))) (hm : S.length ≤ 1000000000) (hTl : T.length ≤ 1000000000) :
    Calls Try.prog 80 #[.agg #[vT, vS]] w fun en w' => ∃ vT' vS', en = .returned (.agg #[vT', vS']) ∧ Ow 9 w.heap.size w' vT' (T.map Value.string) ∧ Ow 3 w.heap.size w' vS' (S.map (Value.int .i64)) ∧ Below w.heap.size w w' := by
  have HT := Lib.hid hT
  have HS := Lib.hid hS
  obtain ⟨oT, cT, rfl, _, _, _⟩ := hT.mshape
  obtain ⟨oS, cS, rfl, _, _, _⟩ := hS.mshape
  obtain ⟨m, hm'⟩ : ∃ m, m = S.length := ⟨_, rfl⟩
  obtain ⟨q, hq'⟩ : ∃ q, q = T.length := ⟨_, rfl⟩
  rw [← hm'] at hm HS ⊢
  rw [← hq'] at hTl HT ⊢
  have HM := Lib.hid hm'
  have HQ := Lib.hid hq'
  clear hT hS hm' hq'
  have mk1 := mkS q hTl
  have mk2 := mkI m hm
  go_enter Try.func80, Try.ntmps80
  go_wp2
  obtain ⟨W2, hW2⟩ : ∃ W2, W2 = (w.alloc (.cells #[.slice oT q cT, .slice oS m cS] 25)).alloc (.cells #[.slice none 0 0, .slice none 0 0] 25) := ⟨_, rfl⟩
  have g2 : Gr w W2 := by rw [hW2]; exact (Gr.alloc _ _).trans (Gr.alloc _ _)
  have k1 : Blk W2 w.heap.size #[.slice oT q cT, .slice oS m cS] 25 := by rw [hW2]; exact (Blk.new _ _ _).alloc _
  have k2 : Blk W2 (w.heap.size + 1) #[.slice none 0 0, .slice none 0 0] 25 := by rw [hW2]; have := Blk.new (w.alloc (.cells #[.slice oT q cT, .slice oS m cS] 25)) #[.slice none 0 0, .slice none 0 0] 25; simpa using this
  rw [← hW2]
  clear hW2
  obtain ⟨c0, c1, l1⟩ : W2.cell? ⟨w.heap.size, 0, none⟩ = some (.slice oT q cT) ∧ W2.cell? ⟨w.heap.size, 1, none⟩ = some (.slice oS m cS) ∧ w.heap.size < W2.heap.size := ⟨k1.cell 0, k1.cell 1, k1.lt⟩
  go_cut [3] from 4 to 12 (fun s3 wc => ∃ b vT' vS', s3 = .pointer (some ⟨b, 0, none⟩) ∧ NewT 25 9 3 W2 b vT' vS' (List.replicate q (.string ⟨#[]⟩)) (List.replicate m (.int .i64 0)) wc)
  case first =>
    go_region
    all_goals
      go_wp2_with fail
      go_meet
      first | exact ⟨_, _, _, rfl, newT_TSR _ _ _ _ hTl hm _ _⟩ | exact ⟨_, _, _, rfl, newT_TRS _ _ _ _ hTl hm _ _⟩ | exact ⟨_, _, _, rfl, newT_STR _ _ _ _ hTl hm _ _⟩ | exact ⟨_, _, _, rfl, newT_SRT _ _ _ _ hTl hm _ _⟩ | exact ⟨_, _, _, rfl, newT_RTS _ _ _ _ hTl hm _ _⟩ | exact ⟨_, _, _, rfl, newT_RST _ _ _ _ hTl hm _ _⟩
  case rest =>
    obtain ⟨b, vT', vS', rfl, hN⟩ := hcut
    obtain ⟨oT', cT', rfl⟩ := hN.oT.shape
    obtain ⟨oS', cS', rfl⟩ := hN.oS.shape
    rw [List.length_replicate, List.length_replicate] at hN
    have HN := Lib.hid hN
    have hb2 : w.heap.size ≤ W2.heap.size := g2.below.size
    obtain ⟨c0, c1⟩ : wc.cell? ⟨w.heap.size, 0, none⟩ = some (.slice oT q cT) ∧ wc.cell? ⟨w.heap.size, 1, none⟩ = some (.slice oS m cS) := ⟨(k1.later hN.low).cell 0, (k1.later hN.low).cell 1⟩
    obtain ⟨d0, d1⟩ : wc.cell? ⟨b, 0, none⟩ = some (.slice oT' q cT') ∧ wc.cell? ⟨b, 1, none⟩ = some (.slice oS' m cS') := ⟨hN.kb.cell 0, hN.kb.cell 1⟩
    have HT1 := Lib.hid ((HT.out.gr g2).later hN.low)
    have HO := Lib.hid hN.oT
    have K1 := Lib.hid k1
    have K2 := Lib.hid k2
    clear hN mk1 mk2 k1 k2
    go_wp2_with (with_reducible refine wpList_copy_sl rfl _ _ 22 22 rfl 9 Try.underlying22 sizeS W2.heap.size _ _ HO.out rfl _ _ HT1.out rfl ?ca ?cb ?_)
    case ca => rw [List.length_replicate, List.length_map, HQ.out]
    case cb => intro y hy; obtain ⟨s, _, rfl⟩ := List.mem_map.1 hy; rfl
    rw [← HQ.out]
    intro w3 hO3 hG3
    have N3 := HN.out.grownT hO3 hG3 (by decide) (by decide)
    have HN3 := Lib.hid N3
    obtain ⟨c0, c1⟩ : w3.cell? ⟨w.heap.size, 0, none⟩ = some (.slice oT q cT) ∧ w3.cell? ⟨w.heap.size, 1, none⟩ = some (.slice oS m cS) := ⟨(K1.out.later N3.low).cell 0, (K1.out.later N3.low).cell 1⟩
    obtain ⟨d0, d1⟩ : w3.cell? ⟨b, 0, none⟩ = some (.slice oT' q cT') ∧ w3.cell? ⟨b, 1, none⟩ = some (.slice oS' m cS') := ⟨N3.kb.cell 0, N3.kb.cell 1⟩
    have HS1 := Lib.hid ((HS.out.gr g2).later N3.low)
    have HO3 := Lib.hid N3.oS
    clear N3 hO3 hG3
    go_wp2_with (with_reducible refine wpList_copy_sl rfl _ _ 23 23 rfl 3 Try.underlying23 sizeI W2.heap.size _ _ HO3.out rfl _ _ HS1.out rfl ?ca ?cb ?_)
    case ca => rw [List.length_replicate, List.length_map, HM.out]
    case cb => intro y hy; obtain ⟨s, _, rfl⟩ := List.mem_map.1 hy; rfl
    rw [← HM.out]
    intro w4 hO4 hG4
    have N4 := HN3.out.grownS hO4 hG4 (by decide) (by decide)
    have HN4 := Lib.hid N4
    obtain ⟨d0, d1⟩ : w4.cell? ⟨b, 0, none⟩ = some (.slice oT' q cT') ∧ w4.cell? ⟨b, 1, none⟩ = some (.slice oS' m cS') := ⟨N4.kb.cell 0, N4.kb.cell 1⟩
    obtain ⟨e0, e1⟩ : w4.cell? ⟨w.heap.size + 1, 0, none⟩ = some (.slice none 0 0) ∧ w4.cell? ⟨w.heap.size + 1, 1, none⟩ = some (.slice none 0 0) := ⟨(K2.out.later N4.low).cell 0, (K2.out.later N4.low).cell 1⟩
    obtain ⟨f0, f1, l2⟩ : w4.frozen? ⟨w.heap.size + 1, 0, none⟩ = false ∧ w4.frozen? ⟨w.heap.size + 1, 1, none⟩ = false ∧ w.heap.size + 1 < w4.heap.size := ⟨(K2.out.later N4.low).frozen 0, (K2.out.later N4.low).frozen 1, (K2.out.later N4.low).lt⟩
    clear N4 hO4 hG4
    go_wp2
    have kR := ((K2.out.later HN4.out.low).set 0 (.slice oT' q cT')).set 1 (.slice oS' m cS')
    simp only [List.setIfInBounds_toArray, List.set_cons_zero, List.set_cons_succ] at kR
    have hb1 := K2.out.lt
    have C0 := kR.cell 0
    have C1 := kR.cell 1
    simp only [List.getElem?_toArray, List.getElem?_cons_zero, List.getElem?_cons_succ] at C0 C1
    refine bodyPost_ret (v := .agg #[.slice oT' q cT', .slice oS' m cS']) (by simp [results, Try.results80, go_sem, C0, C1]) rfl ⟨_, _, rfl, ?_, ?_, ?_⟩
    · exact ((HN4.out.oT.low_set (by simpa using hb1) _).low_set (by simpa using hb1) _).mono hb2
    · exact ((HN4.out.oS.low_set (by simpa using hb1) _).low_set (by simpa using hb1) _).mono hb2
    · exact ((g2.below.trans (HN4.out.low.mono hb2)).setCell (by simp) _).setCell (by simp) _
end Go.Proofs.Ytmghbejbdkoehaa

