/- table.All of what may not be; table.Put. -/
import Derived.Test.YtfnlegnieilcbaaJ11
namespace Go.Proofs.Kit
open Go.RowKit
/-- What Put comes to. -/
inductive PutP (ts ti : TypeId) (w : World) (T : List ByteArray) (S : List Int) (s : ByteArray) : Ending → World → Prop
  | bad (w' : World) (h : ¬ Good hsh T S) (hb : Below w.heap.size w w') : PutP ts ti w T S s (.returned (.tuple #[.agg #[.slice none 0 0, .slice none 0 0], .int .i64 0, .int .i64 150])) w'
  | full (w' : World) (h : Good hsh T S) (hs : s ∉ T) (hT : T.length = 1024) (hb : Below w.heap.size w w') : PutP ts ti w T S s (.returned (.tuple #[.agg #[.slice none 0 0, .slice none 0 0], .int .i64 0, .int .i64 6])) w'
  | ok (w' : World) (T' : List ByteArray) (k : Nat) (vT' vS' vN' : Value) (h : Good hsh T S) (hk : (s ∈ T ∧ T' = T ∧ k = pos T s) ∨ (s ∉ T ∧ T.length ≠ 1024 ∧ T' = T ++ [s] ∧ k = T.length)) (a : AllOk ts ti w T' [(k : Int)] (max S.length 4096) vT' vS' vN' w') :
      PutP ts ti w T S s (.returned (.tuple #[.agg #[vT', vS'], .int .i64 (k : Int), .int .i64 0])) w'
theorem allL_one (T : List ByteArray) (s : ByteArray) : allL T [s] = stepL (some (T, [])) s := rfl
end Go.Proofs.Kit
namespace Go.Proofs.Ytfnlegnieilcbaa
open Go.RowKit Go.Proofs.Kit Go.Shelf

set_option maxHeartbeats 1000000 in
theorem all_bad (vT vS vl : Value) (hvl : ∃ o n c, vl = .slice o n c) (T : List ByteArray) (S : List Int) (w : World) (hT : Sl w vT (T.map Value.string)) (hS : Sl w vS (S.map (Value.int .i64))) (hm : S.length ≤ 1000000000) (hTl : T.length ≤ 1000000000)
    (hsz : ∀ s ∈ T, s.size ≤ 9223372036854775807) (hg : ¬ Kit.Good hsh T S) :
    Calls Try.prog 23 #[.agg #[vT, vS], vl] w fun en w' => en = .returned (.tuple #[.agg #[.slice none 0 0, .slice none 0 0], .slice none 0 0, .int .i64 150]) ∧ Below w.heap.size w w' := by
  obtain ⟨oL, nL, cL, rfl⟩ := hvl
  have HT := Lib.hid hT
  have HS := Lib.hid hS
  have HZ := Lib.hid hsz
  have HG := Lib.hid hg
  obtain ⟨oT, cT, rfl, _, _, _⟩ := hT.mshape
  obtain ⟨oS, cS, rfl, _, _, _⟩ := hS.mshape
  clear hT hS hsz hg
  go_enter Try.func23, Try.ntmps23
  go_wp2_with fail
  obtain ⟨W2, hW2⟩ : ∃ W2, W2 = (w.alloc (.cells #[.slice oT T.length cT, .slice oS S.length cS] 25)).alloc (.cells #[.slice none 0 0, .slice none 0 0] 25) := ⟨_, rfl⟩
  have g2 : Gr w W2 := by rw [hW2]; exact (Gr.alloc _ _).trans (Gr.alloc _ _)
  have k2 : Blk W2 (w.heap.size + 1) #[.slice none 0 0, .slice none 0 0] 25 := by rw [hW2]; have := Blk.new (w.alloc (.cells #[.slice oT T.length cT, .slice oS S.length cS] 25)) #[.slice none 0 0, .slice none 0 0] 25; simpa using this
  rw [← hW2]
  clear hW2
  refine (check_any _ _ T S W2 (HT.out.gr g2) (HS.out.gr g2) hm hTl HZ.out 150 (.inr ⟨HG.out, rfl⟩)).mono ?_
  rintro e W3 ⟨rfl, g3⟩
  have k3 := k2.gr g3
  have g13 := g2.trans g3
  obtain ⟨r0, r1, s0, s1, m0⟩ : W3.cell? ⟨w.heap.size + 1, 0, none⟩ = some (.slice none 0 0) ∧ W3.cell? ⟨w.heap.size + 1, 1, none⟩ = some (.slice none 0 0) ∧ W3.frozen? ⟨w.heap.size + 1, 0, none⟩ = false ∧ W3.frozen? ⟨w.heap.size + 1, 1, none⟩ = false ∧ w.heap.size + 1 < W3.heap.size := ⟨k3.cell 0, k3.cell 1, k3.frozen 0, k3.frozen 1, k3.lt⟩
  have K3 := Lib.hid k3
  clear k2 k3
  go_wp2
  have kR := (K3.out.set 0 (.slice none 0 0)).set 1 (.slice none 0 0)
  simp only [List.setIfInBounds_toArray, List.set_cons_zero, List.set_cons_succ] at kR
  have C0 := kR.cell 0
  have C1 := kR.cell 1
  simp only [List.getElem?_toArray, List.getElem?_cons_zero, List.getElem?_cons_succ] at C0 C1
  exact bodyPost_ret (v := .tuple #[.agg #[.slice none 0 0, .slice none 0 0], .slice none 0 0, .int .i64 150]) (by simp [results, Try.results23, go_sem, C0, C1]) rfl ⟨rfl, (g13.below.setCell (by simp) _).setCell (by simp) _⟩

set_option maxHeartbeats 2000000 in
theorem put_any (vT vS : Value) (T : List ByteArray) (S : List Int) (s : ByteArray) (hs : s.size ≤ 9223372036854775807) (w : World) (hT : Sl w vT (T.map Value.string)) (hS : Sl w vS (S.map (Value.int .i64))) (hm : S.length ≤ 10000000) (hTl : T.length ≤ 10000000)
    (hsz : ∀ s ∈ T, s.size ≤ 9223372036854775807) :
    Calls Try.prog 20 #[.agg #[vT, vS], .string s] w (PutP 9 3 w T S s) := by
  have HT := Lib.hid hT
  have HS := Lib.hid hS
  have HZ := Lib.hid hsz
  obtain ⟨oT, cT, rfl, _, _, _⟩ := hT.mshape
  obtain ⟨oS, cS, rfl, _, _, _⟩ := hS.mshape
  clear hT hS hsz
  go_enter Try.func20, Try.ntmps20
  go_wp2_with fail
  obtain ⟨W3, hW3⟩ : ∃ W3, W3 = ((w.alloc (.cells #[.slice oT T.length cT, .slice oS S.length cS] 25)).alloc (.cells #[.slice none 0 0, .slice none 0 0] 25)).alloc (.cells #[.string s] 9) := ⟨_, rfl⟩
  have g3 : Gr w W3 := by rw [hW3]; exact ((Gr.alloc _ _).trans (Gr.alloc _ _)).trans (Gr.alloc _ _)
  have k2 : Blk W3 (w.heap.size + 1) #[.slice none 0 0, .slice none 0 0] 25 := by rw [hW3]; have := (Blk.new (w.alloc (.cells #[.slice oT T.length cT, .slice oS S.length cS] 25)) #[.slice none 0 0, .slice none 0 0] 25).alloc (.cells #[.string s] 9); simpa using this
  have sl : Sl W3 (.slice (some ⟨w.heap.size + 1 + 1, 0, none⟩) 1 1) ([s].map Value.string) := by
    rw [hW3]
    have := Blk.new ((w.alloc (.cells #[.slice oT T.length cT, .slice oS S.length cS] 25)).alloc (.cells #[.slice none 0 0, .slice none 0 0] 25)) #[.string s] 9
    exact Sl.of_blk (l := [.string s]) (by simpa using this) (by simp) (by simp) (by simp)
  rw [← hW3]
  clear hW3
  have K2 := Lib.hid k2
  have hl3 : w.heap.size ≤ W3.heap.size := g3.below.size
  by_cases hg : Kit.Good hsh T S
  · refine (all_any _ _ _ T [s] S W3 (HT.out.gr g3) (HS.out.gr g3) sl hm (by simp) HZ.out (fun x hx => by rw [List.mem_singleton] at hx; rw [hx]; exact hs) hg).mono ?_
    rintro e W4 (⟨_, h, hb⟩ | ⟨_, T', ns, vT', vS', vN', h, ha⟩)
    · rw [allL_one, stepL_some] at h
      have hfu : s ∉ T ∧ T.length = 1024 := by
        split at h
        · cases h
        · split at h
          · exact ⟨by assumption, by assumption⟩
          · cases h
      have HF := Lib.hid hfu
      have HG := Lib.hid hg
      clear h hfu hg k2 sl
      have k4 := K2.out.later hb
      have hb4 : Below w.heap.size w W4 := g3.below.trans (hb.mono hl3)
      obtain ⟨r0, r1, s0, s1, m0⟩ : W4.cell? ⟨w.heap.size + 1, 0, none⟩ = some (.slice none 0 0) ∧ W4.cell? ⟨w.heap.size + 1, 1, none⟩ = some (.slice none 0 0) ∧ W4.frozen? ⟨w.heap.size + 1, 0, none⟩ = false ∧ W4.frozen? ⟨w.heap.size + 1, 1, none⟩ = false ∧ w.heap.size + 1 < W4.heap.size := ⟨k4.cell 0, k4.cell 1, k4.frozen 0, k4.frozen 1, k4.lt⟩
      have K4 := Lib.hid k4
      clear k4
      go_wp2
      have kR := ((K4.out.set 0 (.slice none 0 0)).set 1 (.slice none 0 0)).alloc (.cells #[.slice none 0 0, .slice none 0 0] 25)
      simp only [List.setIfInBounds_toArray, List.set_cons_zero, List.set_cons_succ] at kR
      have C0 := kR.cell 0
      have C1 := kR.cell 1
      simp only [List.getElem?_toArray, List.getElem?_cons_zero, List.getElem?_cons_succ] at C0 C1
      exact bodyPost_ret (v := .tuple #[.agg #[.slice none 0 0, .slice none 0 0], .int .i64 0, .int .i64 6]) (by simp [results, Try.results20, go_sem, C0, C1]) rfl (PutP.full _ HG.out HF.out.1 HF.out.2 (((hb4.setCell (by simp) _).setCell (by simp) _).alloc (by simpa using hb4.size) _))
    · rw [allL_one, stepL_some] at h
      obtain ⟨k, hk, hns⟩ : ∃ k : Nat, ((s ∈ T ∧ T' = T ∧ k = pos T s) ∨ (s ∉ T ∧ T.length ≠ 1024 ∧ T' = T ++ [s] ∧ k = T.length)) ∧ ns = [(k : Int)] := by
        split at h
        · injection h with h; injection h with h1 h2
          exact ⟨pos T s, .inl ⟨by assumption, h1.symm, rfl⟩, by rw [← h2]; rfl⟩
        · split at h
          · cases h
          · injection h with h; injection h with h1 h2
            exact ⟨T.length, .inr ⟨by assumption, by assumption, h1.symm, rfl⟩, by rw [← h2]; rfl⟩
      subst hns
      obtain ⟨S', o1, o2, o3, o4⟩ := ha.ex
      have o5 := ha.oN
      obtain ⟨a1, x1, rfl⟩ := o1.shape
      obtain ⟨a2, x2, rfl⟩ := o2.shape
      obtain ⟨a3, x3, rfl⟩ := o5.shape
      obtain ⟨g, rfl, -, hgl, d0⟩ := o5.at (i := 0) (by simp)
      simp only [List.getElem_cons_zero] at d0
      have hb := ha.low
      have k4 := K2.out.later hb
      have hb4 : Below w.heap.size w W4 := g3.below.trans (hb.mono hl3)
      have h0 : g ≠ w.heap.size + 1 := fun e => by have := (o5.lt g rfl).1; have := K2.out.lt; omega
      obtain ⟨r0, r1, s0, s1, m0⟩ : W4.cell? ⟨w.heap.size + 1, 0, none⟩ = some (.slice none 0 0) ∧ W4.cell? ⟨w.heap.size + 1, 1, none⟩ = some (.slice none 0 0) ∧ W4.frozen? ⟨w.heap.size + 1, 0, none⟩ = false ∧ W4.frozen? ⟨w.heap.size + 1, 1, none⟩ = false ∧ w.heap.size + 1 < W4.heap.size := ⟨k4.cell 0, k4.cell 1, k4.frozen 0, k4.frozen 1, k4.lt⟩
      have K4 := Lib.hid k4
      have HK := Lib.hid hk
      have HA := Lib.hid ha
      have HG := Lib.hid hg
      clear k4 hk ha hg h o1 o2 o3 o4 o5 k2 sl
      simp only [List.length_map, List.length_cons, List.length_nil] at HA ⊢
      go_wp2
      obtain ⟨W5, hW5⟩ : ∃ W5, W5 = W4.alloc (.cells #[.slice a1 T'.length x1, .slice a2 S'.length x2] 25) := ⟨_, rfl⟩
      have g5 : Gr W4 W5 := by rw [hW5]; exact Gr.alloc _ _
      have kb := Blk.new W4 #[.slice a1 T'.length x1, .slice a2 S'.length x2] 25
      rw [← hW5] at kb ⊢
      clear hW5 r0 r1 s0 s1 m0
      have d1 := (g5.below.cell (p := ⟨g, 0, none⟩) hgl).trans d0
      have k5 := K4.out.gr g5
      obtain ⟨c0, c1⟩ : W5.cell? ⟨W4.heap.size, 0, none⟩ = some (.slice a1 T'.length x1) ∧ W5.cell? ⟨W4.heap.size, 1, none⟩ = some (.slice a2 S'.length x2) := ⟨kb.cell 0, kb.cell 1⟩
      obtain ⟨r0, r1, s0, s1, m0⟩ : W5.cell? ⟨w.heap.size + 1, 0, none⟩ = some (.slice none 0 0) ∧ W5.cell? ⟨w.heap.size + 1, 1, none⟩ = some (.slice none 0 0) ∧ W5.frozen? ⟨w.heap.size + 1, 0, none⟩ = false ∧ W5.frozen? ⟨w.heap.size + 1, 1, none⟩ = false ∧ w.heap.size + 1 < W5.heap.size := ⟨k5.cell 0, k5.cell 1, k5.frozen 0, k5.frozen 1, k5.lt⟩
      have K5 := Lib.hid k5
      have hm4 : W4.heap.size ≠ w.heap.size + 1 := by have := K4.out.lt; omega
      clear k5 kb d0
      go_region
      all_goals
        go_wp2
        have kR := ((K5.out.set 0 (.slice a1 T'.length x1)).set 1 (.slice a2 S'.length x2)).drew
        simp only [List.setIfInBounds_toArray, List.set_cons_zero, List.set_cons_succ] at kR
        have C0 := kR.cell 0
        have C1 := kR.cell 1
        simp only [List.getElem?_toArray, List.getElem?_cons_zero, List.getElem?_cons_succ] at C0 C1
        have hl2 := K2.out.lt
        have far : ∀ {t : TypeId} {x : Value} {l : List Value}, Ow t W3.heap.size W4 x l → Ow t w.heap.size ((W5.setCell ⟨w.heap.size + 1, 0, none⟩ (.slice a1 T'.length x1)).setCell ⟨w.heap.size + 1, 1, none⟩ (.slice a2 S'.length x2)).drew x l := fun ho =>
          ((((ho.gr g5).low_set (by simpa using hl2) _).low_set (by simpa using hl2) _).drew).mono hl3
        obtain ⟨S2, o1, o2, o3, o4⟩ := HA.out.ex
        exact bodyPost_ret (v := .tuple #[.agg #[.slice a1 T'.length x1, .slice a2 S'.length x2], .int .i64 (k : Int), .int .i64 0]) (by simp [results, Try.results20, go_sem, C0, C1]) rfl
          (PutP.ok _ T' k _ _ _ HG.out HK.out ⟨⟨S2, far o1, far o2, o3, o4⟩, far HA.out.oN, (((below_gr hb4 g5 hb4.size).setCell (by simp) _).setCell (by simp) _).drew⟩)
  · refine (all_bad _ _ _ ⟨_, _, _, rfl⟩ T S W3 (HT.out.gr g3) (HS.out.gr g3) (by omega) (by omega) HZ.out hg).mono ?_
    rintro e W4 ⟨rfl, hb⟩
    have HG := Lib.hid hg
    clear hg k2 sl
    have k4 := K2.out.later hb
    have hb4 : Below w.heap.size w W4 := g3.below.trans (hb.mono hl3)
    obtain ⟨r0, r1, s0, s1, m0⟩ : W4.cell? ⟨w.heap.size + 1, 0, none⟩ = some (.slice none 0 0) ∧ W4.cell? ⟨w.heap.size + 1, 1, none⟩ = some (.slice none 0 0) ∧ W4.frozen? ⟨w.heap.size + 1, 0, none⟩ = false ∧ W4.frozen? ⟨w.heap.size + 1, 1, none⟩ = false ∧ w.heap.size + 1 < W4.heap.size := ⟨k4.cell 0, k4.cell 1, k4.frozen 0, k4.frozen 1, k4.lt⟩
    have K4 := Lib.hid k4
    clear k4
    go_wp2
    have kR := ((K4.out.set 0 (.slice none 0 0)).set 1 (.slice none 0 0)).alloc (.cells #[.slice none 0 0, .slice none 0 0] 25)
    simp only [List.setIfInBounds_toArray, List.set_cons_zero, List.set_cons_succ] at kR
    have C0 := kR.cell 0
    have C1 := kR.cell 1
    simp only [List.getElem?_toArray, List.getElem?_cons_zero, List.getElem?_cons_succ] at C0 C1
    exact bodyPost_ret (v := .tuple #[.agg #[.slice none 0 0, .slice none 0 0], .int .i64 0, .int .i64 150]) (by simp [results, Try.results20, go_sem, C0, C1]) rfl (PutP.bad _ HG.out (((hb4.setCell (by simp) _).setCell (by simp) _).alloc (by simpa using hb4.size) _))
end Go.Proofs.Ytfnlegnieilcbaa
