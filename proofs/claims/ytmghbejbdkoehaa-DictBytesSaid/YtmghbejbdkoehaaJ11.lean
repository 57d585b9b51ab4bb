/- table.All, table.Put, table.New. -/
import Derived.Test.YtmghbejbdkoehaaJ10
namespace Go.Proofs.Kit
open Go.RowKit
theorem Sl.at {α : Type} {e : α → Value} {W : World} {n c i : Nat} {o : Option Addr} {l : List α} (h : Sl W (.slice o n c) (l.map e)) (hi : i < l.length) : ∃ b f, o = some ⟨b, f, none⟩ ∧ b < W.heap.size ∧ W.cell? ⟨b, f + i, none⟩ = some (e l[i]) := by
  obtain ⟨o', c', e1, _, _, ha⟩ := h.mshape
  injection e1 with e1 _ _
  subst e1
  obtain ⟨b, f, e2, hb, hc⟩ := ha.resolve_left (fun e => by rw [e] at hi; simp at hi)
  exact ⟨b, f, e2, hb, hc i hi⟩
/-- Texts that are put: what came of them. -/
structure AllOk (ts ti : TypeId) (w : World) (T' : List ByteArray) (ns : List Int) (m : Nat) (vT' vS' vN' : Value) (w' : World) : Prop where
  ex : ∃ S', Ow ts w.heap.size w' vT' (T'.map Value.string) ∧ Ow ti w.heap.size w' vS' (S'.map (Value.int .i64)) ∧ Good hsh T' S' ∧ S'.length ≤ m
  oN : Ow ti w.heap.size w' vN' (ns.map (Value.int .i64))
  low : Below w.heap.size w w'
inductive AllP (ts ti : TypeId) (w : World) (T l : List ByteArray) (m : Nat) : Ending → World → Prop
  | full (w' : World) (h : allL T l = none) (hb : Below w.heap.size w w') : AllP ts ti w T l m (.returned (.tuple #[.agg #[.slice none 0 0, .slice none 0 0], .slice none 0 0, .int .i64 6])) w'
  | ok (w' : World) (T' : List ByteArray) (ns : List Int) (vT' vS' vN' : Value) (h : allL T l = some (T', ns)) (a : AllOk ts ti w T' ns m vT' vS' vN' w') : AllP ts ti w T l m (.returned (.tuple #[.agg #[vT', vS'], vN', .int .i64 0])) w'
/-- What lies while texts are put, one behind the other. -/
structure AW (tt ts ti : TypeId) (w : World) (b : Nat) (xT xS vT vS vN : Value) (T' : List ByteArray) (S' N' : List Int) (W : World) : Prop where
  kr : Blk W (w.heap.size + 1) #[.slice none 0 0, .slice none 0 0] tt
  kb : Blk W b #[xT, xS] tt
  oT : Ow ts w.heap.size W vT (T'.map Value.string)
  oS : Ow ti w.heap.size W vS (S'.map (Value.int .i64))
  oN : Ow ti w.heap.size W vN (N'.map (Value.int .i64))
  ne : ∀ g, vS.ownBlock = some g → vN.ownBlock ≠ some g
  good : Good hsh T' S'
  low : Below w.heap.size w W
  hb : w.heap.size + 2 ≤ b
section
variable {tt ts ti : TypeId} {w W W' : World} {b : Nat} {xT xS vT vS vN : Value} {T' T2 : List ByteArray} {S' N' : List Int}
theorem AW.gr (h : AW tt ts ti w b xT xS vT vS vN T' S' N' W) (g : Below W.heap.size W W') : AW tt ts ti w b xT xS vT vS vN T' S' N' W' :=
  ⟨h.kr.later g, h.kb.later g, h.oT.later g, h.oS.later g, h.oN.later g, h.ne, h.good, h.low.trans (g.mono h.low.size), h.hb⟩
theorem AW.cells (h : AW tt ts ti w b xT xS vT vS vN T' S' N' W) : W.cell? ⟨b, 0, none⟩ = some xT ∧ W.cell? ⟨b, 1, none⟩ = some xS ∧ W.frozen? ⟨b, 0, none⟩ = false ∧ W.frozen? ⟨b, 1, none⟩ = false ∧ b < W.heap.size := ⟨h.kb.cell 0, h.kb.cell 1, h.kb.frozen 0, h.kb.frozen 1, h.kb.lt⟩
theorem AW.rcells (h : AW tt ts ti w b xT xS vT vS vN T' S' N' W) : W.cell? ⟨w.heap.size + 1, 0, none⟩ = some (.slice none 0 0) ∧ W.cell? ⟨w.heap.size + 1, 1, none⟩ = some (.slice none 0 0) ∧ W.frozen? ⟨w.heap.size + 1, 0, none⟩ = false ∧ W.frozen? ⟨w.heap.size + 1, 1, none⟩ = false ∧ w.heap.size + 1 < W.heap.size :=
  ⟨h.kr.cell 0, h.kr.cell 1, h.kr.frozen 0, h.kr.frozen 1, h.kr.lt⟩
/-- A text is put, and the record written. -/
theorem AW.put {vT' vS' : Value} {m : Nat} (h : AW tt ts ti w b xT xS vT vS vN T' S' N' W) (p : PutR ts ti w.heap.size W (fun g => vT.ownBlock = some g ∨ vS.ownBlock = some g) vS.ownBlock T2 m vT' vS' W') (h1 : ts ≠ tt) (h2 : ti ≠ tt) (h3 : ts ≠ ti) :
    ∃ S2, S2.length ≤ m ∧ Blk W' b #[xT, xS] tt ∧ AW tt ts ti w b vT' vS' vT' vS' vN T2 S2 N' ((W'.setCell ⟨b, 0, none⟩ vT').setCell ⟨b, 1, none⟩ vS') := by
  obtain ⟨S2, o1, o2, o3, o4⟩ := p.ex
  have hnb : ∀ (x : Nat) (vs : Array Value), Blk W x vs tt → ¬ (vT.ownBlock = some x ∨ vS.ownBlock = some x) := fun x vs hx e => by
    rcases e with e | e
    · exact h.oT.ne_blk hx h1 e
    · exact h.oS.ne_blk hx h2 e
  have hnN : ∀ g, vN.ownBlock = some g → ¬ (vT.ownBlock = some g ∨ vS.ownBlock = some g) := fun g hg e => by
    rcases e with e | e
    · exact h.oT.ne_ow h.oN h3 g e hg
    · exact h.ne g e hg
  have kb' : Blk W' b #[xT, xS] tt := p.but.blk h.kb (hnb _ _ h.kb)
  have oN' := p.but.ow h.oN hnN
  have far : ∀ {t : TypeId} {v : Value} {l : List Value}, t ≠ tt → Ow t w.heap.size W' v l → Ow t w.heap.size ((W'.setCell ⟨b, 0, none⟩ vT').setCell ⟨b, 1, none⟩ vS') v l := fun ht ho =>
    ho.same fun g hg => (Below.heap_setCell _ _ _ _ (by rintro rfl; exact ho.ne_blk kb' ht hg)).trans (Below.heap_setCell _ _ _ _ (by rintro rfl; exact ho.ne_blk kb' ht hg))
  have hb := h.hb
  refine ⟨S2, o4, kb', ((p.but.blk h.kr (hnb _ _ h.kr)).other (by simp; omega) _).other (by simp; omega) _, ?_, far h1 o1, far h2 o2, far h2 oN', fun g hg hN => ?_, o3, ?_, hb⟩
  · have := (kb'.set 0 vT').set 1 vS'
    simpa using this
  · rcases p.new with e | e
    · exact h.ne g (by rw [← e]; exact hg) hN
    · have := e g hg; have := (h.oN.lt g hN).2; omega
  · refine ((h.low.trans (p.but.below (fun x hx => ?_) h.low.size)).setCell (by simp; omega) _).setCell (by simp; omega) _
    rcases hx with e | e
    · exact (h.oT.lt _ e).1
    · exact (h.oS.lt _ e).1
/-- The record is written, whatever. -/
theorem AW.record (h : AW tt ts ti w b xT xS vT vS vN T' S' N' W) (u v : Value) (h1 : ts ≠ tt) (h2 : ti ≠ tt) : AW tt ts ti w b u v vT vS vN T' S' N' ((W.setCell ⟨b, 0, none⟩ u).setCell ⟨b, 1, none⟩ v) := by
  have far : ∀ {t : TypeId} {x : Value} {l : List Value}, t ≠ tt → Ow t w.heap.size W x l → Ow t w.heap.size ((W.setCell ⟨b, 0, none⟩ u).setCell ⟨b, 1, none⟩ v) x l := fun ht ho =>
    ho.same fun g hg => (Below.heap_setCell _ _ _ _ (by rintro rfl; exact ho.ne_blk h.kb ht hg)).trans (Below.heap_setCell _ _ _ _ (by rintro rfl; exact ho.ne_blk h.kb ht hg))
  have hb := h.hb
  refine ⟨(h.kr.other (by simp; omega) _).other (by simp; omega) _, ?_, far h1 h.oT, far h2 h.oS, far h2 h.oN, h.ne, h.good, (h.low.setCell (by simp; omega) _).setCell (by simp; omega) _, hb⟩
  have := (h.kb.set 0 u).set 1 v
  simpa using this
/-- A number is noted. -/
theorem AW.note {o : Option Addr} {n c i : Nat} (h : AW tt ts ti w b xT xS vT vS (.slice o n c) T' S' N' W) (hi : i < N'.length) (h2 : ti ≠ tt) (h3 : ti ≠ ts) :
    ∃ g x, o = some ⟨g, 0, none⟩ ∧ n = N'.length ∧ n ≤ c ∧ c ≤ 9223372036854775807 ∧ g < W.heap.size ∧ W.cell? ⟨g, i, none⟩ = some x ∧ W.frozen? ⟨g, i, none⟩ = false ∧
      ∀ y : Int, AW tt ts ti w b xT xS vT vS (.slice o n c) T' S' (N'.set i y) (W.setCell ⟨g, i, none⟩ (.int .i64 y)) := by
  obtain ⟨g, cap, e, h4, h5, h6, h7, h8, h9, _⟩ := h.oN.set (i := i) (by simpa using hi) (.int .i64 0)
  rw [List.length_map] at e h4
  injection e with e1 e2 e3
  subst e1 e2 e3
  refine ⟨g, _, rfl, rfl, h4, h5, h7, h8, h9, fun y => ?_⟩
  obtain ⟨g', cap', e', _, _, _, _, _, _, h10⟩ := h.oN.set (i := i) (by simpa using hi) (.int .i64 y)
  injection e' with e1 _ _
  injection e1 with e1
  injection e1 with e1 _ _
  subst e1
  have hnb := h.oN.ne_blk h.kb h2
  have hnr := h.oN.ne_blk h.kr h2
  exact ⟨h.kr.other (fun e => hnr (by rw [e]; rfl)) _, h.kb.other (fun e => hnb (by rw [e]; rfl)) _, h.oT.same fun g' hg' => Below.heap_setCell _ _ _ _ (by rintro rfl; exact h.oN.ne_ow h.oT h3 _ rfl hg'),
    h.oS.same fun g' hg' => Below.heap_setCell _ _ _ _ (by rintro rfl; exact h.ne _ hg' rfl), by rw [List.map_set]; exact h10, h.ne, h.good, h.low.setCell h6 _, h.hb⟩
end
theorem note_set (ns : List Int) (n k : Nat) (y : Int) (hk : ns.length = k) (hn : k < n) : (ns ++ List.replicate (n - k) 0).set k y = (ns ++ [y]) ++ List.replicate (n - (k + 1)) 0 := by
  have e : List.replicate (n - k) (0 : Int) = 0 :: List.replicate (n - (k + 1)) 0 := by rw [← List.replicate_succ]; congr 1; omega
  rw [e, List.set_append_right _ _ (by omega), hk, Nat.sub_self, List.set_cons_zero, List.append_assoc, List.singleton_append]
theorem good_new : Good hsh ([] : List ByteArray) (List.replicate 8 0) :=
  Good.of_part ⟨by simp, by simp, by decide, by simp⟩ (Part.none hsh [] (fun x hx => (List.mem_replicate.1 hx).2)) (by simp)
end Go.Proofs.Kit
namespace Go.Proofs.Ytmghbejbdkoehaa
open Go.RowKit Go.Proofs.Kit Go.Shelf

set_option maxRecDepth 100000 in
set_option maxHeartbeats 1000000 in
theorem new_any (w : World) : Calls Try.prog 46 #[] w fun en w' => ∃ b, en = .returned (.agg #[.slice none 0 0, .slice (some ⟨b, 0, none⟩) 8 8]) ∧ Ow 3 w.heap.size w' (.slice (some ⟨b, 0, none⟩) 8 8) ((List.replicate 8 (0 : Int)).map (Value.int .i64)) ∧ Below w.heap.size w w' := by
  have mk : ∀ W : World, (Instr.makeSlice 23 (.int .i64 8) (.int .i64 8)).run Try.prog W = .ok (.slice (some ⟨W.heap.size, 0, none⟩) 8 8) (W.alloc (.cells (List.replicate 8 (Value.int .i64 0)).toArray 3)) := mkI 8 (by omega)
  go_enter Try.func46, Try.ntmps46
  go_wp2
  obtain ⟨W, hW⟩ : ∃ W, W = (w.alloc (.cells #[.slice none 0 0, .slice (some ⟨w.heap.size + 1, 0, none⟩) 8 8] 25)).alloc (.cells #[.int .i64 0, .int .i64 0, .int .i64 0, .int .i64 0, .int .i64 0, .int .i64 0, .int .i64 0, .int .i64 0] 3) := ⟨_, rfl⟩
  have k1 : Blk W w.heap.size #[.slice none 0 0, .slice (some ⟨w.heap.size + 1, 0, none⟩) 8 8] 25 := by rw [hW]; exact (Blk.new _ _ _).alloc _
  have k0 : Blk W (w.heap.size + 1) (Array.replicate 8 (Value.int .i64 0)) 3 := by
    rw [hW]
    have := Blk.new (w.alloc (.cells #[.slice none 0 0, .slice (some ⟨w.heap.size + 1, 0, none⟩) 8 8] 25)) #[.int .i64 0, .int .i64 0, .int .i64 0, .int .i64 0, .int .i64 0, .int .i64 0, .int .i64 0, .int .i64 0] 3
    rw [show Array.replicate 8 (Value.int .i64 0) = #[.int .i64 0, .int .i64 0, .int .i64 0, .int .i64 0, .int .i64 0, .int .i64 0, .int .i64 0, .int .i64 0] from rfl]
    simpa using this
  have hb : Below w.heap.size w W := by rw [hW]; exact ((Gr.alloc _ _).trans (Gr.alloc _ _)).below
  rw [← hW]
  have C0 := k1.cell 0
  have C1 := k1.cell 1
  simp only [List.getElem?_toArray, List.getElem?_cons_zero, List.getElem?_cons_succ] at C0 C1
  refine bodyPost_ret (v := .agg #[.slice none 0 0, .slice (some ⟨w.heap.size + 1, 0, none⟩) 8 8]) (by simp [results, Try.results46, go_sem, C0, C1]) rfl ⟨_, rfl, ?_, hb⟩
  have O0 := Ow.of_rep (B := w.heap.size) k0 (by omega) (by omega)
  simpa using O0

set_option maxRecDepth 100000 in
set_option maxHeartbeats 4000000 in
theorem all_any (vT vS vl : Value) (T l : List ByteArray) (S : List Int) (w : World) (hT : Sl w vT (T.map Value.string)) (hS : Sl w vS (S.map (Value.int .i64))) (hl : Sl w vl (l.map Value.string)) (hm : S.length ≤ 10000000) (hll : l.length ≤ 1000000)
    (hsz : ∀ s ∈ T, s.size ≤ 9223372036854775807) (hlz : ∀ s ∈ l, s.size ≤ 9223372036854775807) (hg : Kit.Good hsh T S) :
    Calls Try.prog 73 #[.agg #[vT, vS], vl] w (AllP 9 3 w T l (max S.length 4096)) := by
  have HT := Lib.hid hT
  have HS := Lib.hid hS
  have HL := Lib.hid hl
  have HZ := Lib.hid hsz
  have HLZ := Lib.hid hlz
  have HG := Lib.hid hg
  have hT1 : T.length ≤ 1024 := hg.sz.1
  obtain ⟨oT, cT, rfl, _, _, _⟩ := hT.mshape
  obtain ⟨oS, cS, rfl, _, _, _⟩ := hS.mshape
  obtain ⟨oL, cL, rfl, _, _, _⟩ := hl.mshape
  obtain ⟨n, hn⟩ : ∃ n, n = l.length := ⟨_, rfl⟩
  rw [← hn] at hll HL ⊢
  have HN := Lib.hid hn
  clear hT hS hl hn hsz hlz hg
  have mk := mkI n (by omega)
  go_enter Try.func73, Try.ntmps73
  go_wp2_with fail
  obtain ⟨W2, hW2⟩ : ∃ W2, W2 = (w.alloc (.cells #[.slice oT T.length cT, .slice oS S.length cS] 25)).alloc (.cells #[.slice none 0 0, .slice none 0 0] 25) := ⟨_, rfl⟩
  have g2 : Gr w W2 := by rw [hW2]; exact (Gr.alloc _ _).trans (Gr.alloc _ _)
  have k1 : Blk W2 w.heap.size #[.slice oT T.length cT, .slice oS S.length cS] 25 := by rw [hW2]; exact (Blk.new _ _ _).alloc _
  have k2 : Blk W2 (w.heap.size + 1) #[.slice none 0 0, .slice none 0 0] 25 := by rw [hW2]; have := Blk.new (w.alloc (.cells #[.slice oT T.length cT, .slice oS S.length cS] 25)) #[.slice none 0 0, .slice none 0 0] 25; simpa using this
  rw [← hW2]
  clear hW2
  refine (check_any _ _ T S W2 (HT.out.gr g2) (HS.out.gr g2) (by omega) (by omega) HZ.out 0 (.inl ⟨HG.out, rfl⟩)).mono ?_
  rintro e W3 ⟨rfl, g3⟩
  obtain ⟨c0, c1⟩ : W3.cell? ⟨w.heap.size, 0, none⟩ = some (.slice oT T.length cT) ∧ W3.cell? ⟨w.heap.size, 1, none⟩ = some (.slice oS S.length cS) := ⟨(k1.gr g3).cell 0, (k1.gr g3).cell 1⟩
  have g13 := g2.trans g3
  have K2 := Lib.hid (k2.gr g3)
  clear k1 k2
  go_wp2_with fail
  refine (copied_any _ _ T S W3 (HT.out.gr g13) (HS.out.gr g13) (by omega) (by omega)).mono ?_
  rintro e W4 ⟨vT4, vS4, rfl, oT4, oS4, b4⟩
  obtain ⟨a4, x4, rfl⟩ := oT4.shape
  obtain ⟨a5, x5, rfl⟩ := oS4.shape
  rw [List.length_map] at oT4 oS4
  rw [List.length_map, List.length_map]
  have K4 := Lib.hid (K2.out.later b4)
  have HO4 := Lib.hid oT4
  have HO5 := Lib.hid oS4
  have hb4 : w.heap.size ≤ W3.heap.size := g13.below.size
  have low4 : Below w.heap.size w W4 := g13.below.trans (b4.mono hb4)
  clear oT4 oS4 c0 c1
  go_wp2
  obtain ⟨W5, hW5⟩ : ∃ W5, W5 = (W4.alloc (.cells #[.slice a4 T.length x4, .slice a5 S.length x5] 25)).alloc (.cells (Array.replicate n (Value.int .i64 0)) 3) := ⟨_, rfl⟩
  have g5 : Gr W4 W5 := by rw [hW5]; exact (Gr.alloc _ _).trans (Gr.alloc _ _)
  have kb5 : Blk W5 W4.heap.size #[.slice a4 T.length x4, .slice a5 S.length x5] 25 := by rw [hW5]; exact (Blk.new _ _ _).alloc _
  have kn5 : Blk W5 (W4.heap.size + 1) (Array.replicate n (Value.int .i64 0)) 3 := by rw [hW5]; have := Blk.new (W4.alloc (.cells #[.slice a4 T.length x4, .slice a5 S.length x5] 25)) (Array.replicate n (Value.int .i64 0)) 3; simpa using this
  have hl4 := K4.out.lt
  have A5 : AW 25 9 3 w W4.heap.size (.slice a4 T.length x4) (.slice a5 S.length x5) (.slice a4 T.length x4) (.slice a5 S.length x5) (.slice (some ⟨W4.heap.size + 1, 0, none⟩) n n) T S ([] ++ List.replicate (n - 0) 0) W5 := by
    refine ⟨K4.out.gr g5, kb5, (HO4.out.mono hb4).gr g5, (HO5.out.mono hb4).gr g5, ?_, fun g hg e => ?_, HG.out, below_gr low4 g5 low4.size, by omega⟩
    · have := Ow.of_rep (B := w.heap.size) kn5 (by omega) (by omega)
      simpa using this
    · simp only [Value.ownBlock, Option.some.injEq] at e
      have := (HO5.out.lt g hg).2
      omega
  rw [← hW5]
  clear hW5 kb5 kn5 mk
  have HA5 := Lib.hid A5
  clear A5
  go_loopw [9, 10, 11, 23] (fun _ _ _ i wr => ∃ (k : Nat) (T' : List ByteArray) (S' ns : List Int) (vT vS : Value), k ≤ n ∧ i = .int .i64 (k : Int) ∧ Hid (allL T (l.take k) = some (T', ns)) ∧ Hid (AW 25 9 3 w W4.heap.size vT vS vT vS (.slice (some ⟨W4.heap.size + 1, 0, none⟩) n n) T' S' (ns ++ List.replicate (n - k) 0) wr) ∧ Hid (S'.length ≤ max S.length 4096) ∧ Hid (∀ s ∈ T', s.size ≤ 9223372036854775807)) (fun _ _ _ i _ => n - (intOf i).toNat)
  case atStart => exact ⟨0, T, S, [], _, _, Nat.zero_le _, rfl, Lib.hid rfl, HA5, Lib.hid (by omega), HZ⟩
  case round =>
    clear HA5
    obtain ⟨k, T', S', ns, vT, vS, hk, rfl, hal, hA, hS', hZ'⟩ := hrel
    have hnk : ns.length = k := by have := allL_len hal.out; rw [this, List.length_take, ← HN.out]; omega
    have hS7 : S'.length ≤ 10000000 := by have := hS'.out; omega
    by_cases hkn : k < n
    · have hkl : k < l.length := by have := HN.out; omega
      have hsx := HLZ.out _ (List.getElem_mem hkl)
      have htk := allL_take_succ (T := T) hkl
      rw [hal.out, stepL_some] at htk
      obtain ⟨bL, fL, rfl, hbL, hcL⟩ := HL.out.at hkl
      have dL := (hA.out.low.cell (p := ⟨bL, fL + k, none⟩) hbL).trans hcL
      obtain ⟨s, hs⟩ : ∃ s, s = l[k] := ⟨_, rfl⟩
      rw [← hs] at dL hsx htk
      have HTK := Lib.hid htk
      have HNK := Lib.hid hnk
      clear hs hcL htk hnk
      have hTl' : T'.length ≤ 1024 := hA.out.good.sz.1
      obtain ⟨oT', cT', rfl⟩ := hA.out.oT.shape
      obtain ⟨oS', cS', rfl⟩ := hA.out.oS.shape
      rw [List.length_map, List.length_map] at hA
      obtain ⟨c0, c1, -, -, -⟩ := hA.out.cells
      by_cases hin : s ∈ T'
      · rw [if_pos hin] at HTK
        go_wp2_with fail
        refine (with_has w.heap.size _ _ T' S' s hsx wr hA.out.oT hA.out.oS (by omega) hA.out.good hin).mono ?_
        rintro e w' ⟨rfl, hb⟩
        have A1 := hA.out.gr hb
        obtain ⟨c0, c1, f0, f1, l0⟩ := A1.cells
        have A2 := A1.record (.slice oT' T'.length cT') (.slice oS' S'.length cS') (by decide) (by decide)
        obtain ⟨g, x, e1, -, -, -, h3, h4, h5, h6⟩ := A2.note (i := k) (by simp; have := HNK.out; omega) (by decide) (by decide)
        injection e1 with e1
        injection e1 with e1 _ _
        subst e1
        have A3 := h6 (pos T' s : Nat)
        rw [note_set _ _ _ _ HNK.out hkn] at A3
        have HA3 := Lib.hid A3
        clear A1 A2 A3 h6
        go_wp2
        go_roundw
        case rel => exact ⟨k + 1, T', S', ns ++ [(pos T' s : Int)], _, _, by omega, by go_num, HTK, HA3, hS', hZ'⟩
        case measure => simp [intOf]; omega
      · rw [if_neg hin] at HTK
        by_cases hfull : T'.length = 1024
        · rw [if_pos hfull] at HTK
          have HFU := Lib.hid hfull
          clear hfull
          go_wp2_with fail
          refine (with_full w.heap.size _ _ T' S' s hsx wr hA.out.oT hA.out.oS (by omega) hA.out.good hin HFU.out).mono ?_
          rintro e w' ⟨rfl, hb⟩
          have A1 := hA.out.gr hb
          obtain ⟨c0, c1, f0, f1, l0⟩ := A1.cells
          have A2 := A1.record (.slice none 0 0) (.slice none 0 0) (by decide) (by decide)
          obtain ⟨g, x, e1, -, -, -, h3, h4, h5, h6⟩ := A2.note (i := k) (by simp; have := HNK.out; omega) (by decide) (by decide)
          injection e1 with e1
          injection e1 with e1 _ _
          subst e1
          have A3 := h6 0
          obtain ⟨r0, r1, s0, s1, m0⟩ := A3.rcells
          have HA3 := Lib.hid A3
          clear A1 A2 A3 h6
          go_wp2
          have kR := (HA3.out.kr.set 0 (.slice none 0 0)).set 1 (.slice none 0 0)
          simp only [List.setIfInBounds_toArray, List.set_cons_zero, List.set_cons_succ] at kR
          have C0 := kR.cell 0
          have C1 := kR.cell 1
          simp only [List.getElem?_toArray, List.getElem?_cons_zero, List.getElem?_cons_succ] at C0 C1
          exact bodyPost_ret (v := .tuple #[.agg #[.slice none 0 0, .slice none 0 0], .slice none 0 0, .int .i64 6]) (by simp [results, Try.results73, go_sem, C0, C1]) rfl (AllP.full _ (allL_none HTK.out) ((HA3.out.low.setCell (by simp) _).setCell (by simp) _))
        · rw [if_neg hfull] at HTK
          go_wp2_with fail
          refine (with_new w.heap.size _ _ T' S' s hsx wr hA.out.low.size hA.out.oT hA.out.oS hS7 hZ'.out hA.out.good hin hfull).mono ?_
          rintro e w' ⟨vT2, vS2, rfl, hp⟩
          obtain ⟨S2, hl2, kb2, A2⟩ := hA.out.put hp (by decide) (by decide) (by decide)
          obtain ⟨o6, c6, e6⟩ := A2.oT.shape
          obtain ⟨o7, c7, e7⟩ := A2.oS.shape
          rw [List.length_map] at e6 e7
          obtain ⟨n6, hn6⟩ : ∃ n6, n6 = (T' ++ [s]).length := ⟨_, rfl⟩
          rw [← hn6] at e6
          clear hn6
          subst e6 e7
          obtain ⟨c0, c1, f0, f1, l0⟩ : w'.cell? ⟨W4.heap.size, 0, none⟩ = some (.slice oT' T'.length cT') ∧ w'.cell? ⟨W4.heap.size, 1, none⟩ = some (.slice oS' S'.length cS') ∧ w'.frozen? ⟨W4.heap.size, 0, none⟩ = false ∧ w'.frozen? ⟨W4.heap.size, 1, none⟩ = false ∧ W4.heap.size < w'.heap.size := ⟨kb2.cell 0, kb2.cell 1, kb2.frozen 0, kb2.frozen 1, kb2.lt⟩
          obtain ⟨g, x, e1, -, -, -, h3, h4, h5, h6⟩ := A2.note (i := k) (by simp; have := HNK.out; omega) (by decide) (by decide)
          injection e1 with e1
          injection e1 with e1 _ _
          subst e1
          have A3 := h6 (T'.length : Nat)
          rw [note_set _ _ _ _ HNK.out hkn] at A3
          have HA3 := Lib.hid A3
          have HL2 := Lib.hid hl2
          clear A2 A3 h6 hp kb2 hl2
          go_wp2
          go_roundw
          case rel =>
            refine ⟨k + 1, T' ++ [s], S2, ns ++ [(T'.length : Int)], _, _, by omega, by go_num, HTK, HA3, Lib.hid (by have := HL2.out; have := hS'.out; omega), Lib.hid fun x hx => ?_⟩
            rcases List.mem_append.1 hx with hx | hx
            · exact hZ'.out x hx
            · rw [List.mem_singleton] at hx; rw [hx]; exact hsx
          case measure => simp [intOf]; omega
    · obtain rfl : k = n := by omega
      rw [Nat.sub_self, List.replicate_zero, List.append_nil] at hA
      have htl : l.take k = l := List.take_of_length_le (by rw [← HN.out]; omega)
      rw [htl] at hal
      obtain ⟨oT', cT', rfl⟩ := hA.out.oT.shape
      obtain ⟨oS', cS', rfl⟩ := hA.out.oS.shape
      rw [List.length_map, List.length_map] at hA
      obtain ⟨c0, c1, -, -, -⟩ := hA.out.cells
      obtain ⟨r0, r1, s0, s1, m0⟩ := hA.out.rcells
      clear htl
      go_wp2
      have kR := (hA.out.kr.set 0 (.slice oT' T'.length cT')).set 1 (.slice oS' S'.length cS')
      simp only [List.setIfInBounds_toArray, List.set_cons_zero, List.set_cons_succ] at kR
      have C0 := kR.cell 0
      have C1 := kR.cell 1
      simp only [List.getElem?_toArray, List.getElem?_cons_zero, List.getElem?_cons_succ] at C0 C1
      have far : ∀ {t : TypeId} {x : Value} {m : List Value}, t ≠ 25 → Ow t w.heap.size wr x m → Ow t w.heap.size ((wr.setCell ⟨w.heap.size + 1, 0, none⟩ (.slice oT' T'.length cT')).setCell ⟨w.heap.size + 1, 1, none⟩ (.slice oS' S'.length cS')) x m := fun ht ho =>
        ho.same fun g hg => (Below.heap_setCell _ _ _ _ (by rintro rfl; exact ho.ne_blk hA.out.kr ht hg)).trans (Below.heap_setCell _ _ _ _ (by rintro rfl; exact ho.ne_blk hA.out.kr ht hg))
      exact bodyPost_ret (v := .tuple #[.agg #[.slice oT' T'.length cT', .slice oS' S'.length cS'], .slice (some ⟨W4.heap.size + 1, 0, none⟩) k k, .int .i64 0]) (by simp [results, Try.results73, go_sem, C0, C1]) rfl
        (AllP.ok _ T' ns _ _ _ hal.out ⟨⟨S', far (by decide) hA.out.oT, far (by decide) hA.out.oS, hA.out.good, by have := hS'.out; omega⟩, far (by decide) hA.out.oN, (hA.out.low.setCell (by simp) _).setCell (by simp) _⟩)
end Go.Proofs.Ytmghbejbdkoehaa

