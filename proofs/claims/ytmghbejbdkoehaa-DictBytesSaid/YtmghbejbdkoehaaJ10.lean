/- A text put in place: with. -/
import Derived.Test.YtmghbejbdkoehaaJ9
namespace Go.Proofs.Kit
open Go.RowKit
/-- What lies while a text is put: the record handed in, and the one to be answered, behind w0; two rows; all else as it lay, but the blocks R. -/
structure WT (tt ts ti : TypeId) (B : Nat) (w0 : World) (R : Nat → Prop) (xT xS vT vS : Value) (lT lS : List Value) (W : World) : Prop where
  kb : Blk W w0.heap.size #[xT, xS] tt
  kr : Blk W (w0.heap.size + 1) #[.slice none 0 0, .slice none 0 0] tt
  oT : Ow ts B W vT lT
  oS : Ow ti B W vS lS
  but : ButR R w0 W
  rS : ∀ g, vS.ownBlock = some g → g < w0.heap.size → R g
/-- What a text that is put makes of a table's rows. -/
structure PutR (ts ti : TypeId) (B : Nat) (w : World) (R : Nat → Prop) (oS : Option Nat) (T' : List ByteArray) (m : Nat) (vT' vS' : Value) (w' : World) : Prop where
  ex : ∃ S', Ow ts B w' vT' (T'.map Value.string) ∧ Ow ti B w' vS' (S'.map (Value.int .i64)) ∧ Good hsh T' S' ∧ S'.length ≤ m
  but : ButR R w w'
  new : vS'.ownBlock = oS ∨ ∀ b, vS'.ownBlock = some b → w.heap.size ≤ b
section
variable {tt ts ti : TypeId} {B : Nat} {w0 W W' : World} {R : Nat → Prop} {xT xS vT vS : Value} {lT lS l' : List Value}
theorem WT.gr (h : WT tt ts ti B w0 R xT xS vT vS lT lS W) (g : Gr W W') : WT tt ts ti B w0 R xT xS vT vS lT lS W' := ⟨h.kb.gr g, h.kr.gr g, h.oT.gr g, h.oS.gr g, h.but.later g.below, h.rS⟩
theorem WT.below (h : WT tt ts ti B w0 R xT xS vT vS lT lS W) (g : Below W.heap.size W W') : WT tt ts ti B w0 R xT xS vT vS lT lS W' := ⟨h.kb.later g, h.kr.later g, h.oT.later g, h.oS.later g, h.but.later g, h.rS⟩
theorem WT.cells (h : WT tt ts ti B w0 R xT xS vT vS lT lS W) : W.cell? ⟨w0.heap.size, 0, none⟩ = some xT ∧ W.cell? ⟨w0.heap.size, 1, none⟩ = some xS ∧ W.frozen? ⟨w0.heap.size, 0, none⟩ = false ∧ W.frozen? ⟨w0.heap.size, 1, none⟩ = false ∧ w0.heap.size < W.heap.size :=
  ⟨h.kb.cell 0, h.kb.cell 1, h.kb.frozen 0, h.kb.frozen 1, h.kb.lt⟩
theorem WT.rcells (h : WT tt ts ti B w0 R xT xS vT vS lT lS W) : W.cell? ⟨w0.heap.size + 1, 0, none⟩ = some (.slice none 0 0) ∧ W.cell? ⟨w0.heap.size + 1, 1, none⟩ = some (.slice none 0 0) ∧ W.frozen? ⟨w0.heap.size + 1, 0, none⟩ = false ∧ W.frozen? ⟨w0.heap.size + 1, 1, none⟩ = false ∧ w0.heap.size + 1 < W.heap.size :=
  ⟨h.kr.cell 0, h.kr.cell 1, h.kr.frozen 0, h.kr.frozen 1, h.kr.lt⟩
/-- The texts' row grows. -/
theorem WT.append {v' : Value} (h : WT tt ts ti B w0 R xT xS vT vS lT lS W) (hO : Ow ts B W' v' l') (hg : W.grownBy W' vT.ownBlock) (h1 : ts ≠ tt) (h2 : ts ≠ ti) (hr : ∀ g, vT.ownBlock = some g → g < w0.heap.size → R g) : WT tt ts ti B w0 R xT xS v' vS l' lS W' :=
  ⟨h.kb.grown hg (h.oT.ne_blk h.kb h1), h.kr.grown hg (h.oT.ne_blk h.kr h1), hO, h.oS.same fun g hg' => hg.block g (h.oS.lt g hg').2 (fun e => h.oT.ne_ow h.oS h2 g e.symm hg'), h.but.grown hg hr, h.rS⟩
/-- The record is written. -/
theorem WT.setT (h : WT tt ts ti B w0 R xT xS vT vS lT lS W) (u : Value) (h1 : ts ≠ tt) (h2 : ti ≠ tt) : WT tt ts ti B w0 R u xS vT vS lT lS (W.setCell ⟨w0.heap.size, 0, none⟩ u) :=
  ⟨h.kb.set 0 u, h.kr.other (by simp) u, h.oT.same fun _ hg => Below.heap_setCell _ _ _ _ (by rintro rfl; exact h.oT.ne_blk h.kb h1 hg), h.oS.same fun _ hg => Below.heap_setCell _ _ _ _ (by rintro rfl; exact h.oS.ne_blk h.kb h2 hg), h.but.set _ _ (by simp), h.rS⟩
theorem WT.setS (h : WT tt ts ti B w0 R xT xS vT vS lT lS W) (u : Value) (h1 : ts ≠ tt) (h2 : ti ≠ tt) : WT tt ts ti B w0 R xT u vT vS lT lS (W.setCell ⟨w0.heap.size, 1, none⟩ u) :=
  ⟨h.kb.set 1 u, h.kr.other (by simp) u, h.oT.same fun _ hg => Below.heap_setCell _ _ _ _ (by rintro rfl; exact h.oT.ne_blk h.kb h1 hg), h.oS.same fun _ hg => Below.heap_setCell _ _ _ _ (by rintro rfl; exact h.oS.ne_blk h.kb h2 hg), h.but.set _ _ (by simp), h.rS⟩
/-- A number is laid into a slot. -/
theorem WT.store {S : List Int} {o : Option Addr} {m c p : Nat} (h : WT tt ts ti B w0 R xT xS vT (.slice o m c) lT (S.map (.int .i64)) W) (hp : p < S.length) (h1 : ti ≠ tt) (h2 : ti ≠ ts) :
    ∃ g, o = some ⟨g, 0, none⟩ ∧ m = S.length ∧ m ≤ c ∧ c ≤ 9223372036854775807 ∧ g < W.heap.size ∧ W.cell? ⟨g, p, none⟩ = some (.int .i64 S[p]) ∧ W.frozen? ⟨g, p, none⟩ = false ∧
      ∀ y : Int, WT tt ts ti B w0 R xT xS vT (.slice o m c) lT ((S.set p y).map (.int .i64)) (W.setCell ⟨g, p, none⟩ (.int .i64 y)) := by
  obtain ⟨g, cap, e, h3, h4, h5, h6, h7, h8, _⟩ := h.oS.set (i := p) (by simpa using hp) (.int .i64 0)
  rw [List.length_map] at e h3
  injection e with e1 e2 e3
  subst e1 e2 e3
  rw [List.getElem_map] at h7
  refine ⟨g, rfl, rfl, h3, h4, h6, h7, h8, fun y => ?_⟩
  obtain ⟨g', cap', e', _, _, _, _, _, _, h9⟩ := h.oS.set (i := p) (by simpa using hp) (.int .i64 y)
  injection e' with e1 _ _
  injection e1 with e1
  injection e1 with e1 _ _
  subst e1
  have hne := h.oS.ne_blk h.kb h1
  have hne' := h.oS.ne_blk h.kr h1
  refine ⟨h.kb.other (by rintro rfl; exact hne rfl) _, h.kr.other (fun e => hne' (by rw [e]; rfl)) _, h.oT.same fun g' hg' => Below.heap_setCell _ _ _ _ (by rintro rfl; exact h.oS.ne_ow h.oT h2 _ rfl hg'), by rw [List.map_set]; exact h9, h.but.set _ _ (fun hl => h.rS _ rfl hl), h.rS⟩
end
end Go.Proofs.Kit
namespace Go.Proofs.Ytmghbejbdkoehaa
open Go.RowKit Go.Proofs.Kit Go.Shelf
abbrev WTa (B : Nat) (w0 : World) (R : Nat → Prop) (xT xS vT vS : Value) (T : List ByteArray) (S : List Int) (W : World) : Prop := WT 25 9 3 B w0 R xT xS vT vS (T.map Value.string) (S.map (Value.int .i64)) W
/-- The rows of a table. -/
abbrev Rows2 (vT vS : Value) (b : Nat) : Prop := vT.ownBlock = some b ∨ vS.ownBlock = some b
theorem wt_start (B : Nat) (w : World) (vT vS : Value) (T : List ByteArray) (S : List Int) (hT : Ow 9 B w vT (T.map Value.string)) (hS : Ow 3 B w vS (S.map (Value.int .i64))) :
    WTa B w (Rows2 vT vS) vT vS vT vS T S ((w.alloc (.cells #[vT, vS] 25)).alloc (.cells #[.slice none 0 0, .slice none 0 0] 25)) := by
  have g : Gr w ((w.alloc (.cells #[vT, vS] 25)).alloc (.cells #[.slice none 0 0, .slice none 0 0] 25)) := (Gr.alloc _ _).trans (Gr.alloc _ _)
  refine ⟨(Blk.new _ _ _).alloc _, ?_, hT.gr g, hS.gr g, .of_below g.below, fun _ h _ => .inr h⟩
  have := Blk.new (w.alloc (.cells #[vT, vS] 25)) #[.slice none 0 0, .slice none 0 0] 25
  simpa using this

set_option maxRecDepth 100000 in
set_option maxHeartbeats 2000000 in
theorem with_has (B : Nat) (vT vS : Value) (T : List ByteArray) (S : List Int) (s : ByteArray) (hs : s.size ≤ 9223372036854775807) (w : World) (hT : Ow 9 B w vT (T.map Value.string)) (hS : Ow 3 B w vS (S.map (Value.int .i64)))
    (hm : S.length ≤ 100000000) (hg : Kit.Good hsh T S) (hin : s ∈ T) :
    Calls Try.prog 81 #[.agg #[vT, vS], .string s] w fun en w' => en = .returned (.tuple #[.agg #[vT, vS], .int .i64 (pos T s : Nat), .int .i64 0]) ∧ Below w.heap.size w w' := by
  have hW0 := wt_start B w vT vS T S hT hS
  obtain ⟨oT, cT, rfl⟩ := hT.shape
  obtain ⟨oS, cS, rfl⟩ := hS.shape
  rw [List.length_map, List.length_map] at *
  have hTl : T.length ≤ 1024 := hg.sz.1
  obtain ⟨p, hp⟩ := seatO_some (hs := hsh) (T := T) (s := s) hg.free
  have hpl := seatO_lt hp
  have hpl0 := hpl
  have hy := hg.has hp hin
  rw [at0_lt hpl] at hy
  have hseat := fun W (hT : Sl W (.slice oT T.length cT) (T.map Value.string)) (hS : Sl W (.slice oS S.length cS) (S.map (Value.int .i64))) => seat_any _ _ T S s hs W hT hS (by omega) (by omega) hg.fl.1 p hp
  obtain ⟨k, hk⟩ : ∃ k, k = pos T s := ⟨_, rfl⟩
  rw [← hk] at hy ⊢
  have hkT : k < T.length := by rw [hk]; exact pos_lt hin
  have HS := Lib.hid hseat
  have HY := Lib.hid hy
  clear hy hseat hk hT hS hp hin
  obtain ⟨m, hm'⟩ : ∃ m, m = S.length := ⟨_, rfl⟩
  obtain ⟨q, hq'⟩ : ∃ q, q = T.length := ⟨_, rfl⟩
  rw [← hm'] at hm hpl hW0 HS ⊢
  rw [← hq'] at hTl hkT hW0 HS ⊢
  have HM := Lib.hid hm'
  clear hm' hq' hg
  go_enter Try.func81, Try.ntmps81
  go_wp2_with fail
  obtain ⟨W2, hW2⟩ : ∃ W2, W2 = (w.alloc (.cells #[.slice oT q cT, .slice oS m cS] 25)).alloc (.cells #[.slice none 0 0, .slice none 0 0] 25) := ⟨_, rfl⟩
  have g2 : Gr w W2 := by rw [hW2]; exact (Gr.alloc _ _).trans (Gr.alloc _ _)
  rw [← hW2] at hW0 ⊢
  clear hW2
  refine (HS.out W2 hW0.oT.sl hW0.oS.sl).mono ?_
  rintro e W3 ⟨rfl, g3⟩
  have W03 := hW0.gr g3
  have HW := Lib.hid W03
  clear hW0
  obtain ⟨c0, c1, -, -, -⟩ := W03.cells
  obtain ⟨r0, r1, f0, f1, l1⟩ := W03.rcells
  obtain ⟨g, rfl, -, d1, d2, d3, d4, -, -⟩ := W03.store (p := p) hpl0 (by decide) (by decide)
  rw [HY.out] at d4
  have q1 : (p : Int) < (m : Int) := by omega
  have q2 : decide (0 < (k : Int) + 1) = true := by rw [decide_eq_true_eq]; omega
  clear W03
  go_wp2
  have kR := (HW.out.kr.set 0 (.slice oT q cT)).set 1 (.slice (some ⟨g, 0, none⟩) m cS)
  simp only [List.setIfInBounds_toArray, List.set_cons_zero, List.set_cons_succ] at kR
  have C0 := kR.cell 0
  have C1 := kR.cell 1
  simp only [List.getElem?_toArray, List.getElem?_cons_zero, List.getElem?_cons_succ] at C0 C1
  exact bodyPost_ret (v := .tuple #[.agg #[.slice oT q cT, .slice (some ⟨g, 0, none⟩) m cS], .int .i64 (k : Int), .int .i64 0]) (by simp [results, Try.results81, go_sem, C0, C1]) rfl ⟨rfl, ((g2.trans g3).below.setCell (by simp) _).setCell (by simp) _⟩

set_option maxRecDepth 100000 in
set_option maxHeartbeats 2000000 in
theorem with_full (B : Nat) (vT vS : Value) (T : List ByteArray) (S : List Int) (s : ByteArray) (hs : s.size ≤ 9223372036854775807) (w : World) (hT : Ow 9 B w vT (T.map Value.string)) (hS : Ow 3 B w vS (S.map (Value.int .i64)))
    (hm : S.length ≤ 100000000) (hg : Kit.Good hsh T S) (hin : s ∉ T) (hfull : T.length = 1024) :
    Calls Try.prog 81 #[.agg #[vT, vS], .string s] w fun en w' => en = .returned (.tuple #[.agg #[.slice none 0 0, .slice none 0 0], .int .i64 0, .int .i64 6]) ∧ Below w.heap.size w w' := by
  have hW0 := wt_start B w vT vS T S hT hS
  obtain ⟨oT, cT, rfl⟩ := hT.shape
  obtain ⟨oS, cS, rfl⟩ := hS.shape
  rw [List.length_map, List.length_map] at *
  have hTl : T.length ≤ 1024 := hg.sz.1
  obtain ⟨p, hp⟩ := seatO_some (hs := hsh) (T := T) (s := s) hg.free
  have hpl := seatO_lt hp
  have hpl0 := hpl
  have hy : at0 S p = 0 := by obtain ⟨_, _, _, h, _⟩ := hg.hasnt hp hin; exact h
  rw [at0_lt hpl] at hy
  have hseat := fun W (hT : Sl W (.slice oT T.length cT) (T.map Value.string)) (hS : Sl W (.slice oS S.length cS) (S.map (Value.int .i64))) => seat_any _ _ T S s hs W hT hS (by omega) (by omega) hg.fl.1 p hp
  have HS := Lib.hid hseat
  have HY := Lib.hid hy
  clear hy hseat hT hS hp hin
  obtain ⟨m, hm'⟩ : ∃ m, m = S.length := ⟨_, rfl⟩
  rw [← hm'] at hm hpl hW0 HS ⊢
  rw [hfull] at hW0 HS ⊢
  have HM := Lib.hid hm'
  clear hm' hg hTl hfull
  go_enter Try.func81, Try.ntmps81
  go_wp2_with fail
  obtain ⟨W2, hW2⟩ : ∃ W2, W2 = (w.alloc (.cells #[.slice oT 1024 cT, .slice oS m cS] 25)).alloc (.cells #[.slice none 0 0, .slice none 0 0] 25) := ⟨_, rfl⟩
  have g2 : Gr w W2 := by rw [hW2]; exact (Gr.alloc _ _).trans (Gr.alloc _ _)
  rw [← hW2] at hW0 ⊢
  clear hW2
  refine (HS.out W2 hW0.oT.sl hW0.oS.sl).mono ?_
  rintro e W3 ⟨rfl, g3⟩
  have W03 := hW0.gr g3
  have HW := Lib.hid W03
  clear hW0
  obtain ⟨c0, c1, -, -, -⟩ := W03.cells
  obtain ⟨r0, r1, f0, f1, l1⟩ := W03.rcells
  obtain ⟨g, rfl, -, d1, d2, d3, d4, -, -⟩ := W03.store (p := p) hpl0 (by decide) (by decide)
  rw [HY.out] at d4
  have q1 : (p : Int) < (m : Int) := by omega
  clear W03
  go_wp2
  have kR := (HW.out.kr.set 0 (.slice none 0 0)).set 1 (.slice none 0 0)
  simp only [List.setIfInBounds_toArray, List.set_cons_zero, List.set_cons_succ] at kR
  have C0 := kR.cell 0
  have C1 := kR.cell 1
  simp only [List.getElem?_toArray, List.getElem?_cons_zero, List.getElem?_cons_succ] at C0 C1
  exact bodyPost_ret (v := .tuple #[.agg #[.slice none 0 0, .slice none 0 0], .int .i64 0, .int .i64 6]) (by simp [results, Try.results81, go_sem, C0, C1]) rfl ⟨rfl, ((g2.trans g3).below.setCell (by simp) _).setCell (by simp) _⟩

set_option maxRecDepth 100000 in
set_option maxHeartbeats 4000000 in
theorem with_new (B : Nat) (vT vS : Value) (T : List ByteArray) (S : List Int) (s : ByteArray) (hs : s.size ≤ 9223372036854775807) (w : World) (hB : B ≤ w.heap.size) (hT : Ow 9 B w vT (T.map Value.string)) (hS : Ow 3 B w vS (S.map (Value.int .i64)))
    (hm : S.length ≤ 10000000) (hsz : ∀ s ∈ T, s.size ≤ 9223372036854775807) (hg : Kit.Good hsh T S) (hin : s ∉ T) (hfull : T.length ≠ 1024) :
    Calls Try.prog 81 #[.agg #[vT, vS], .string s] w fun en w' => ∃ vT' vS', en = .returned (.tuple #[.agg #[vT', vS'], .int .i64 (T.length : Nat), .int .i64 0]) ∧
      PutR 9 3 B w (Rows2 vT vS) vS.ownBlock (T ++ [s]) (max S.length 4096) vT' vS' w' := by
  obtain ⟨i0, hi, hz0, hz1, hz2⟩ := infos
  have hW0 := wt_start B w vT vS T S hT hS
  obtain ⟨oT, cT, rfl⟩ := hT.shape
  obtain ⟨oS, cS, rfl⟩ := hS.shape
  rw [List.length_map, List.length_map] at *
  have hTl : T.length < 1024 := by have := hg.sz.1; omega
  obtain ⟨p, hp⟩ := seatO_some (hs := hsh) (T := T) (s := s) hg.free
  have hpl := seatO_lt hp
  have hpl0 := hpl
  have hF := hg.hasnt hp hin
  have hy : at0 S p = 0 := by obtain ⟨_, _, _, h, _⟩ := hF; exact h
  rw [at0_lt hpl] at hy
  have hseat := fun W (hT : Sl W (.slice oT T.length cT) (T.map Value.string)) (hS : Sl W (.slice oS S.length cS) (S.map (Value.int .i64))) => seat_any _ _ T S s hs W hT hS (by omega) (by omega) hg.fl.1 p hp
  have hPn : Part hsh (T ++ [s]) (S.set p ((T.length : Int) + 1)) (T.length + 1) := (hg.part.more [s]).add (by simp) (by simpa using hF)
  have hNd : (T ++ [s]).Nodup := by
    rw [List.nodup_append]
    exact ⟨hg.nodup, by simp, fun a ha b hb e => hin (by rw [List.mem_singleton] at hb; rw [← hb, ← e]; exact ha)⟩
  have hSz := hg.sz
  have HS := Lib.hid hseat
  have HY := Lib.hid hy
  have HPN := Lib.hid hPn
  have HND := Lib.hid hNd
  have HSZ := Lib.hid hSz
  have HZ := Lib.hid hsz
  clear hy hseat hT hS hp hin hF hPn hNd hSz hg hsz
  obtain ⟨m, hm'⟩ : ∃ m, m = S.length := ⟨_, rfl⟩
  obtain ⟨q, hq'⟩ : ∃ q, q = T.length := ⟨_, rfl⟩
  rw [← hm'] at hm hpl hW0 HS ⊢
  rw [← hq'] at hTl hW0 HS ⊢
  have HM := Lib.hid hm'
  have HQ := Lib.hid hq'
  clear hm' hq' hfull
  go_enter Try.func81, Try.ntmps81
  go_wp2_with fail
  obtain ⟨W2, hW2⟩ : ∃ W2, W2 = (w.alloc (.cells #[.slice oT q cT, .slice oS m cS] 25)).alloc (.cells #[.slice none 0 0, .slice none 0 0] 25) := ⟨_, rfl⟩
  have g2 : Gr w W2 := by rw [hW2]; exact (Gr.alloc _ _).trans (Gr.alloc _ _)
  rw [← hW2] at hW0 ⊢
  clear hW2
  refine (HS.out W2 hW0.oT.sl hW0.oS.sl).mono ?_
  rintro e W3 ⟨rfl, g3⟩
  have W03 := hW0.gr g3
  have HW := Lib.hid W03
  clear hW0
  obtain ⟨c0, c1, x0, x1, y1⟩ := W03.cells
  obtain ⟨g, rfl, -, d1, d2, d3, d4, d5, -⟩ := W03.store (p := p) hpl0 (by decide) (by decide)
  rw [HY.out] at d4
  have q1 : (p : Int) < (m : Int) := by omega
  have q2 : ((q : Int) == 1024) = false := by rw [beq_eq_false_iff_ne]; omega
  have hB3 : B ≤ W3.heap.size := by have := (g2.trans g3).below.size; omega
  have HOT := Lib.hid (W03.oT.alloc (.cells #[.string s] 9))
  clear W03
  go_wp2_with (at_builtin; refine wpList_append_sl rfl _ _ 22 rfl B 9 i0 (.string ⟨#[]⟩) 16 Try.underlying22 hi hz0 hz1 hz2 rfl _ _ rfl HOT.out _ [.string s] rfl ?qa ?qb ?qc ?qd ?qe ?_)
  case qa => exact Sl.of_blk (Blk.new _ _ _) (by simp) (by simp) (by simp)
  case qb => simp [Value.oneCell']
  case qc => simp; have := HQ.out; omega
  case qd => simp; have := HQ.out; omega
  case qe => simp; omega
  rw [show T.map Value.string ++ [Value.string s] = (T ++ [s]).map Value.string by simp]
  intro v4 w4 hO4 hG4
  have W04 := (HW.out.gr (Gr.alloc W3 _)).append hO4 hG4 (by decide) (by decide) (fun _ h _ => .inl h)
  obtain ⟨o4, c4, rfl⟩ := hO4.shape
  rw [List.length_map, List.length_append, List.length_singleton, ← HQ.out] at W04 ⊢
  clear hO4 hG4 HOT c0 c1 x0 x1 y1 d3 d4 d5
  obtain ⟨c0, c1, x0, x1, y1⟩ := W04.cells
  have W05 := W04.setT (.slice o4 (q + 1) c4) (by decide) (by decide)
  obtain ⟨c50, c51, -, -, -⟩ := W05.cells
  obtain ⟨g', e', -, -, -, d3, d4, d5, d6⟩ := W05.store (p := p) hpl0 (by decide) (by decide)
  injection e' with e'
  injection e' with e' _ _
  subst e'
  have H6 := Lib.hid (d6 ((q : Int) + 1))
  rw [HY.out] at d4
  have q3 : IntKind.i64.wrap ((q : Int) + 1) = (q : Int) + 1 := by rw [IntKind.wrap_i64]; omega
  clear W04 W05 d6
  go_upto_region 10 with (fail)
  obtain ⟨W6, hW6⟩ : ∃ W6, W6 = (w4.setCell ⟨w.heap.size, 0, none⟩ (.slice o4 (q + 1) c4)).setCell ⟨g, p, none⟩ (.int .i64 ((q : Int) + 1)) := ⟨_, rfl⟩
  rw [← hW6] at H6 ⊢
  clear hW6 c0 c1 x0 x1 y1 c50 c51 d3 d4 d5
  rw [HQ.out] at H6
  rw [← HQ.out] at HPN
  have hSq : Szd T S := HSZ.out
  have hz4 : 2 * q ≤ m := by have := hSq.2.2.2; rw [← HM.out, ← HQ.out] at this; exact this
  have HN6 := Lib.hid (show WTa B w (Rows2 (.slice oT q cT) (.slice (some ⟨g, 0, none⟩) m cS)) (.slice o4 (q + 1) c4) (.slice (some ⟨g, 0, none⟩) m cS) (.slice o4 (q + 1) c4) (.slice (some ⟨g, 0, none⟩) m cS) (T ++ [s]) (S.set p ((q : Int) + 1)) W6 by rw [HQ.out]; exact H6.out)
  clear H6
  have hlS : (S.set p ((q : Int) + 1)).length = m := by rw [List.length_set, HM.out]
  have hlT : (T ++ [s]).length = q + 1 := by rw [List.length_append, List.length_singleton, HQ.out]
  obtain ⟨c0, c1, x0, x1, y1⟩ := HN6.out.cells
  obtain ⟨r0, r1, f0, f1, l1⟩ := HN6.out.rcells
  by_cases hw : m < 2 * (q + 1)
  · have hw' : decide ((m : Int) < 2 * ((q : Int) + 1)) = true := by rw [decide_eq_true_eq]; omega
    go_wp2_with fail
    have hev : 2 * (q + 1) ≤ 2 * m := by
      have := hSq.2.1
      have := HM.out
      omega
    refine (wider_any _ _ (T ++ [s]) (S.set p ((q : Int) + 1)) W6 HN6.out.oT.sl HN6.out.oS.sl (by omega) (by omega) (fun x hx => by rcases List.mem_append.1 hx with hx | hx; exact HZ.out x hx; rw [List.mem_singleton] at hx; rw [hx]; exact hs) HND.out (by omega)).mono ?_
    rintro e W7 ⟨vT7, vS7, S7, rfl, oT7, oS7, hl7, hP7, hb7⟩
    have W07 := HN6.out.below hb7
    obtain ⟨a7, b7, rfl⟩ := oT7.shape
    obtain ⟨a8, b8, rfl⟩ := oS7.shape
    rw [List.length_map] at oT7 oS7
    rw [List.length_map, List.length_map]
    obtain ⟨c0, c1, x0, x1, y1⟩ := W07.cells
    obtain ⟨n7, hn7⟩ : ∃ n7, n7 = S7.length := ⟨_, rfl⟩
    rw [← hn7] at oS7 hl7 ⊢
    have HL7 := Lib.hid hl7
    have HN7 := Lib.hid hn7
    clear hn7 hl7
    clear r0 r1 f0 f1 l1
    obtain ⟨r0, r1, f0, f1, l1⟩ := W07.rcells
    have W08 := (W07.setT (.slice a7 (T ++ [s]).length b7) (by decide) (by decide)).setS (.slice a8 n7 b8) (by decide) (by decide)
    have hhB : B ≤ W6.heap.size := by have := HN6.out.but.size; omega
    have hl6 : w.heap.size + 1 < W6.heap.size := HN6.out.kr.lt
    have HO7 := Lib.hid oT7
    have HO8 := Lib.hid oS7
    have H08 := Lib.hid W08
    have HG8 := Lib.hid oS7.ge
    clear W08 W07 oT7 oS7
    rw [hlT] at HO7 H08 ⊢
    go_wp2
    have kR := (H08.out.kr.set 0 (.slice a7 (q + 1) b7)).set 1 (.slice a8 n7 b8)
    simp only [List.setIfInBounds_toArray, List.set_cons_zero, List.set_cons_succ] at kR
    have C0 := kR.cell 0
    have C1 := kR.cell 1
    simp only [List.getElem?_toArray, List.getElem?_cons_zero, List.getElem?_cons_succ] at C0 C1
    refine bodyPost_ret (v := .tuple #[.agg #[.slice a7 (q + 1) b7, .slice a8 n7 b8], .int .i64 (q : Int), .int .i64 0]) (by simp [results, Try.results81, go_sem, C0, C1]) rfl ⟨_, _, rfl, ⟨⟨S7, ?_, ?_, ?_, ?_⟩, ?_, .inr ?_⟩⟩
    · exact ((((HO7.out.low_set (by simp; omega) _).low_set (by simp; omega) _).low_set (by simp; omega) _).low_set (by simp; omega) _).mono hhB
    · exact ((((HO8.out.low_set (by simp; omega) _).low_set (by simp; omega) _).low_set (by simp; omega) _).low_set (by simp; omega) _).mono hhB
    · exact Kit.Good.of_part (hSq.twice (by rw [← HN7.out, HL7.out, List.length_set]) _ (by omega) (by rw [hlT, ← HM.out]; omega)) hP7 HND.out
    · rw [← HN7.out, HL7.out, hlS]; omega
    · exact (H08.out.but.set _ _ (fun h => absurd (show w.heap.size + 1 < w.heap.size from h) (by omega))).set _ _ (fun h => absurd (show w.heap.size + 1 < w.heap.size from h) (by omega))
    · intro b hb; have := (HG8.out b hb).1; omega
  · have hw' : decide ((m : Int) < 2 * ((q : Int) + 1)) = false := by rw [decide_eq_false_iff_not]; omega
    go_wp2
    have kR := (HN6.out.kr.set 0 (.slice o4 (q + 1) c4)).set 1 (.slice (some ⟨g, 0, none⟩) m cS)
    simp only [List.setIfInBounds_toArray, List.set_cons_zero, List.set_cons_succ] at kR
    have C0 := kR.cell 0
    have C1 := kR.cell 1
    simp only [List.getElem?_toArray, List.getElem?_cons_zero, List.getElem?_cons_succ] at C0 C1
    refine bodyPost_ret (v := .tuple #[.agg #[.slice o4 (q + 1) c4, .slice (some ⟨g, 0, none⟩) m cS], .int .i64 (q : Int), .int .i64 0]) (by simp [results, Try.results81, go_sem, C0, C1]) rfl ⟨_, _, rfl, ⟨⟨S.set p ((q : Int) + 1), ?_, ?_, ?_, ?_⟩, ?_, .inl rfl⟩⟩
    · exact HN6.out.oT.same fun _ hg => (Below.heap_setCell _ _ _ _ (by rintro rfl; exact HN6.out.oT.ne_blk HN6.out.kr (by decide) hg)).trans (Below.heap_setCell _ _ _ _ (by rintro rfl; exact HN6.out.oT.ne_blk HN6.out.kr (by decide) hg))
    · exact HN6.out.oS.same fun _ hg => (Below.heap_setCell _ _ _ _ (by rintro rfl; exact HN6.out.oS.ne_blk HN6.out.kr (by decide) hg)).trans (Below.heap_setCell _ _ _ _ (by rintro rfl; exact HN6.out.oS.ne_blk HN6.out.kr (by decide) hg))
    · refine Kit.Good.of_part ⟨by omega, by rw [List.length_set]; exact hSq.2.1, by rw [List.length_set]; exact hSq.2.2.1, by rw [hlS, hlT]; omega⟩ (by rw [hlT]; exact HPN.out) HND.out
    · rw [hlS]; omega
    · exact (HN6.out.but.set _ _ (fun h => absurd (show w.heap.size + 1 < w.heap.size from h) (by omega))).set _ _ (fun h => absurd (show w.heap.size + 1 < w.heap.size from h) (by omega))
end Go.Proofs.Ytmghbejbdkoehaa

