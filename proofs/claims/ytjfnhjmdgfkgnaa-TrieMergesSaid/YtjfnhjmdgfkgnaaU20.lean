/- wakes of stage 7's laws. -/
import Derived.Test.YtjfnhjmdgfkgnaaU18
import Derived.Test.YtjfnhjmdgfkgnaaU19
namespace Go.Proofs.Ytjfnhjmdgfkgnaa
open Go.RowKit Go.Proofs.Kit
theorem sm_ok : okP smallP := by decide
theorem sm_bof : bof smallP = [(1, 0, 1), (2, 1, 3)] := by decide
theorem sm_tri : Tri [(1, 0, 1), (2, 1, 3)] [5, 3, 9] smallP ∧ ok7 [(1, 0, 1), (2, 1, 3)] [5, 3, 9] := by
  have := tri_of sm_ok
  rw [sm_bof] at this
  exact this
theorem sm_e : ofE smallP = 0 ∧ ofB smallP = [(1, 0, 1), (2, 1, 3)] ∧ ofL smallP = [5, 3, 9] := by
  exact ⟨if_pos sm_ok, (if_pos sm_ok).trans sm_bof, if_pos sm_ok⟩
theorem sm_cut : cutE [(1, 0, 1), (2, 1, 3)] [5, 3, 9] 2 9 = 0 ∧ cutE [(1, 0, 1), (2, 1, 3)] [5, 3, 9] 3 2 = 2 ∧ cutQ [(1, 0, 1), (2, 1, 3)] [5, 3, 9] 2 9 = [(2, 3), (2, 9)] := by
  have h := sm_tri
  refine ⟨?_, ?_, ?_⟩
  · unfold cutE; rw [if_pos h.2]; rfl
  · unfold cutE; rw [if_pos h.2]; rfl
  · unfold cutQ; rw [if_pos ⟨h.2, by decide⟩]; unfold cutT; rw [h.1.prs]; decide
theorem sm_part : okP [((2 : Int), (3 : Int)), (2, 9)] := by decide
theorem sm_run : runOf (bof [(2, 3), (2, 9)]) ([((2 : Int), (3 : Int)), (2, 9)].map (·.2)) = [(2, 3), (2, 9)] := by
  have h := tri_of sm_part
  unfold runOf
  rw [if_pos h.2, h.1.prs]
theorem sm_rows : rowOf [(1, 0, 1), (2, 1, 3)] [5, 3, 9] [2] = some [3, 9] ∧ rowOf [(1, 0, 1), (2, 1, 3)] [5, 3, 9] [2, 9] = some [] := by
  have h := sm_tri
  have hl : leavesAt [(1, 0, 1), (2, 1, 3)] [5, 3, 9] 2 = [3, 9] := by unfold leavesAt; rw [h.1.prs]; decide
  refine ⟨?_, ?_⟩
  · unfold rowOf; rw [if_pos h.2, pathRow, hl]; rfl
  · unfold rowOf; rw [if_pos h.2, pathRow, hl]; rfl
theorem PathAt.of_seg {w : World} {o : Option Addr} {n c : Nat} {l : List Int} (h : Seg .u64 w (.slice o n c) l) : PathAt w o l := fun i hi => by
  rcases h.2 with ⟨_, rfl⟩ | ⟨b, off, cap, e, _, _, _, h5⟩
  · simp at hi
  · injection e with e _ _
    exact ⟨_, e, by rw [Addr.add_lit]; exact h5 i hi⟩
theorem seg_len {k : IntKind} {w : World} {o : Option Addr} {n c : Nat} {l : List Int} (h : Seg k w (.slice o n c) l) : l.length = n := by
  obtain ⟨o', c', e, _⟩ := h.shape
  injection e with _ e _
  exact e.symm
theorem segR_len {w : World} {o : Option Addr} {n c : Nat} {l : List Br} (h : SegR w (.slice o n c) l) : l.length = n := by
  obtain ⟨o', c', e, _⟩ := h.shape
  injection e with _ e _
  exact e.symm
set_option maxRecDepth 100000 in
set_option maxHeartbeats 8000000 in
theorem wakes7_true (w : World) : Calls Try.prog 11 #[] w fun e w' => e = .returned (.bool true) ∧ Below w.heap.size w w' := by
  go_enter Try.func11, Try.ntmps11
  go_wp2_with fail
  refine (small7_any _).mono ?_
  rintro e w1 ⟨rfl, rfl⟩
  have hs : SegP (w.alloc (.cells #[.int .u64 1, .int .u64 5, .int .u64 2, .int .u64 3, .int .u64 2, .int .u64 9] 83)) (.slice (some ⟨w.heap.size, 0, none⟩) 3 3) smallP := SegP.of_blk (l := smallP) (cap := 3) (Blk.new _ _ _) (by decide) (by omega) rfl
  have lo1 := Lib.hid ((Gr.alloc w (.cells #[.int .u64 1, .int .u64 5, .int .u64 2, .int .u64 3, .int .u64 2, .int .u64 9] 83)).below)
  have HS := Lib.hid hs
  clear hs
  go_wp2_with fail
  obtain ⟨W1, hW1⟩ : ∃ W1, W1 = w.alloc (.cells #[.int .u64 1, .int .u64 5, .int .u64 2, .int .u64 3, .int .u64 2, .int .u64 9] 83) := ⟨_, rfl⟩
  rw [← hW1] at HS lo1 ⊢
  clear hW1
  refine (yof_any _ smallP _ HS.out (by decide)).mono ?_
  rw [sm_e.1, sm_e.2.1, sm_e.2.2]
  rintro e w2 ⟨ob, m, cb, ol, q, cl, rfl, hB, hL, l2⟩
  obtain rfl : 2 = m := segR_len hB.seg
  obtain rfl : 3 = q := seg_len hL.seg
  have lo2 := below_later lo1.out l2
  obtain ⟨W2, hW2⟩ : ∃ W2, W2 = w2.alloc (.cells #[.slice ob 2 cb, .slice ol 3 cl] 25) := ⟨_, rfl⟩
  have kT : Blk W2 w2.heap.size #[.slice ob 2 cb, .slice ol 3 cl] 25 := by rw [hW2]; exact Blk.new _ _ _
  have sB : SegR W2 (.slice ob 2 cb) [(1, 0, 1), (2, 1, 3)] := by rw [hW2]; exact hB.seg.alloc _
  have sL : Seg .u64 W2 (.slice ol 3 cl) [5, 3, 9] := by rw [hW2]; exact hL.seg.alloc _
  have lo3 : Below w.heap.size w W2 := by rw [hW2]; exact lo2.alloc lo2.size _
  obtain ⟨c0, c1, lc⟩ := kT.two
  have KT := Lib.hid kT
  have SB := Lib.hid sB
  have SL := Lib.hid sL
  have LO := Lib.hid lo3
  clear hB hL l2 lo2 kT sB sL lo3 HS lo1
  go_wp2_with fail
  rw [← hW2]
  clear hW2
  refine (ycut_any ob 2 cb ol 3 cl _ _ 2 9 W2 SB.out SL.out rfl rfl (by omega) (by omega)).mono ?_
  rw [sm_cut.1, sm_cut.2.2]
  rintro e w3 ⟨ob3, m3, cb3, ol3, q3, cl3, rfl, hB, hL, l3⟩
  have lo3 := below_later LO.out l3
  obtain ⟨e0, e1, le⟩ := (KT.out.later l3).two
  obtain ⟨W3, hW3⟩ : ∃ W3, W3 = w3.alloc (.cells #[.slice ob3 m3 cb3, .slice ol3 q3 cl3] 25) := ⟨_, rfl⟩
  have kC : Blk W3 w3.heap.size #[.slice ob3 m3 cb3, .slice ol3 q3 cl3] 25 := by rw [hW3]; exact Blk.new _ _ _
  have sB : SegR W3 (.slice ob3 m3 cb3) (bof [(2, 3), (2, 9)]) := by rw [hW3]; exact hB.seg.alloc _
  have sL : Seg .u64 W3 (.slice ol3 q3 cl3) ([((2 : Int), (3 : Int)), (2, 9)].map (·.2)) := by rw [hW3]; exact hL.seg.alloc _
  have lo4 : Below w.heap.size w W3 := by rw [hW3]; exact lo3.alloc lo3.size _
  have st : Below W2.heap.size W2 W3 := by rw [hW3]; exact l3.alloc l3.size _
  have KT := Lib.hid (KT.out.later st)
  have SB := Lib.hid (SB.out.later st)
  have SL := Lib.hid (SL.out.later st)
  have KC := Lib.hid kC
  have CB := Lib.hid sB
  have CL := Lib.hid sL
  have LO := Lib.hid lo4
  clear hB hL l3 lo3 kC sB sL lo4 st c0 c1 lc
  go_wp2_with fail
  rw [← hW3]
  clear hW3
  refine (ycut_any ob 2 cb ol 3 cl _ _ 3 2 W3 SB.out SL.out rfl rfl (by omega) (by omega)).mono ?_
  rw [sm_cut.2.1]
  rintro e w4 ⟨ob4, m4, cb4, ol4, q4, cl4, rfl, _, _, l4⟩
  clear e0 e1 le
  obtain ⟨e0, e1, le⟩ := (KT.out.later l4).two
  obtain ⟨f0, f1, lf⟩ := (KC.out.later l4).two
  obtain ⟨W4, hW4⟩ : ∃ W4, W4 = w4.alloc (.cells #[.slice ob4 m4 cb4, .slice ol4 q4 cl4] 25) := ⟨_, rfl⟩
  have st : Below W3.heap.size W3 W4 := by rw [hW4]; exact l4.alloc l4.size _
  have KT := Lib.hid (KT.out.later st)
  have SB := Lib.hid (SB.out.later st)
  have SL := Lib.hid (SL.out.later st)
  have KC := Lib.hid (KC.out.later st)
  have CB := Lib.hid (CB.out.later st)
  have CL := Lib.hid (CL.out.later st)
  have LO := Lib.hid (below_later LO.out st)
  clear l4 st
  go_wp2_with fail
  obtain ⟨W5, hW5⟩ : ∃ W5, W5 = W4.alloc (.cells #[.int .u64 5, .int .u64 3, .int .u64 9] 32) := ⟨_, rfl⟩
  rw [← hW4]
  have s5 : Seg .u64 W5 (.slice (some ⟨w4.heap.size + 1, 0, none⟩) 3 3) [5, 3, 9] := by rw [hW5, show w4.heap.size + 1 = W4.heap.size by rw [hW4]; simp]; exact Seg.of_blk (l := [5, 3, 9]) (cap := 3) (Blk.new _ _ _) (by simp) (by omega) rfl
  rw [← hW5]
  have st5 : Below W4.heap.size W4 W5 := by rw [hW5]; exact (Gr.alloc _ _).below
  clear hW5 hW4 e0 e1 le f0 f1 lf
  (with_reducible refine (equalu_seg _ _ [5, 3, 9] [5, 3, 9] W5 (SL.out.later st5) s5).mono ?_)
  rintro e w6 ⟨rfl, l6⟩
  have st6 := below_later st5 l6
  have KT := Lib.hid (KT.out.later st6)
  have SB := Lib.hid (SB.out.later st6)
  have SL := Lib.hid (SL.out.later st6)
  have KC := Lib.hid (KC.out.later st6)
  have CB := Lib.hid (CB.out.later st6)
  have CL := Lib.hid (CL.out.later st6)
  have LO := Lib.hid (below_later LO.out st6)
  clear st5 l6 st6 s5
  obtain ⟨e0, e1, le⟩ := KT.out.two
  obtain ⟨f0, f1, lf⟩ := KC.out.two
  simp only [decide_true]
  go_wp2_with fail
  obtain ⟨W7, hW7⟩ : ∃ W7, W7 = w6.alloc (.cells #[.int .u64 1, .int .i64 0, .int .i64 1, .int .u64 2, .int .i64 1, .int .i64 3] 68) := ⟨_, rfl⟩
  rw [← hW7]
  have s7 : SegR W7 (.slice (some ⟨w6.heap.size, 0, none⟩) 2 2) [(1, 0, 1), (2, 1, 3)] := by rw [hW7]; exact SegR.of_blk (l := [(1, 0, 1), (2, 1, 3)]) (cap := 2) (Blk.new _ _ _) (by simp) (by omega) rfl
  have st7 : Below w6.heap.size w6 W7 := by rw [hW7]; exact (Gr.alloc _ _).below
  clear hW7 e0 e1 le f0 f1 lf
  (with_reducible refine (equalB_seg _ _ [(1, 0, 1), (2, 1, 3)] [(1, 0, 1), (2, 1, 3)] W7 (SB.out.later st7) s7).mono ?_)
  rintro e w8 ⟨rfl, g8⟩
  have st8 := below_later st7 g8.below
  have KT := Lib.hid (KT.out.later st8)
  have SB := Lib.hid (SB.out.later st8)
  have SL := Lib.hid (SL.out.later st8)
  have KC := Lib.hid (KC.out.later st8)
  have CB := Lib.hid (CB.out.later st8)
  have CL := Lib.hid (CL.out.later st8)
  have LO := Lib.hid (below_later LO.out st8)
  clear st7 g8 st8 s7
  obtain ⟨e0, e1, le⟩ := KT.out.two
  obtain ⟨f0, f1, lf⟩ := KC.out.two
  simp only [decide_true]
  go_wp2_with fail
  have n1 : m3 ≤ 10000 := by
    have h1 := segR_len CB.out
    have h2 := bof_le [((2 : Int), (3 : Int)), (2, 9)]
    simp only [List.length_cons, List.length_nil] at h2
    omega
  have n2 : q3 ≤ 10000 := by have := seg_len CL.out; simp at this; omega
  (with_reducible refine (yrun_any ob3 m3 cb3 ol3 q3 cl3 _ _ w8 CB.out CL.out (segR_len CB.out) (seg_len CL.out) n1 n2).mono ?_)
  rw [sm_run]
  rintro e w9 ⟨v9, rfl, hO9, l9⟩
  have KT := Lib.hid (KT.out.later l9)
  have SB := Lib.hid (SB.out.later l9)
  have SL := Lib.hid (SL.out.later l9)
  have LO := Lib.hid (below_later LO.out l9)
  clear l9 e0 e1 le f0 f1 lf KC CB CL n1 n2
  obtain ⟨e0, e1, le⟩ := KT.out.two
  obtain ⟨o9, x9, rfl⟩ : ∃ o c, v9 = .slice o 2 c := hO9.shape
  have S9 := Lib.hid hO9.seg
  clear hO9
  go_wp2_with fail
  (with_reducible refine (small7_any _).mono ?_)
  rintro e w10 ⟨rfl, rfl⟩
  obtain ⟨W10, hW10⟩ : ∃ W10, W10 = w9.alloc (.cells #[.int .u64 1, .int .u64 5, .int .u64 2, .int .u64 3, .int .u64 2, .int .u64 9] 83) := ⟨_, rfl⟩
  have s10 : SegP W10 (.slice (some ⟨w9.heap.size, 2, none⟩) 2 2) [(2, 3), (2, 9)] := by
    have h : SegP W10 (.slice (some ⟨w9.heap.size, 0, none⟩) 3 3) smallP := by rw [hW10]; exact SegP.of_blk (l := smallP) (cap := 3) (Blk.new _ _ _) (by decide) (by omega) rfl
    exact h.sub (c' := 2) (p := 1) (q := 3) (by omega) (by decide) (by omega) (by omega)
  have st10 : Below w9.heap.size w9 W10 := by rw [hW10]; exact (Gr.alloc _ _).below
  go_wp2_with fail
  rw [← hW10]
  clear hW10 e0 e1 le
  (with_reducible refine (equalP_seg _ _ [(2, 3), (2, 9)] [(2, 3), (2, 9)] W10 (S9.out.later st10) s10).mono ?_)
  rintro e w11 ⟨rfl, g11⟩
  have st11 := below_later st10 g11.below
  have KT := Lib.hid (KT.out.later st11)
  have SB := Lib.hid (SB.out.later st11)
  have SL := Lib.hid (SL.out.later st11)
  have LO := Lib.hid (below_later LO.out st11)
  clear st10 st11 g11 s10 S9
  obtain ⟨e0, e1, le⟩ := KT.out.two
  simp only [decide_true]
  go_wp2_with fail
  obtain ⟨W12, hW12⟩ : ∃ W12, W12 = w11.alloc (.cells #[.int .u64 2] 32) := ⟨_, rfl⟩
  rw [← hW12]
  have s12 : Seg .u64 W12 (.slice (some ⟨w11.heap.size, 0, none⟩) 1 1) [2] := by rw [hW12]; exact Seg.one _
  have st12 : Below w11.heap.size w11 W12 := by rw [hW12]; exact (Gr.alloc _ _).below
  clear hW12 e0 e1 le
  (with_reducible refine (ykeys_any ob 2 cb ol 3 cl [(1, 0, 1), (2, 1, 3)] [5, 3, 9] (some ⟨w11.heap.size, 0, none⟩) 1 1 [2] W12 (SB.out.later st12) (SL.out.later st12) rfl rfl (by omega) (by omega) (PathAt.of_seg s12) rfl (by omega)).mono ?_)
  rw [sm_rows.1]
  rintro e w13 ⟨v13, rfl, hO13, l13⟩
  have st13 := below_later st12 l13
  have KT := Lib.hid (KT.out.later st13)
  have SB := Lib.hid (SB.out.later st13)
  have SL := Lib.hid (SL.out.later st13)
  have LO := Lib.hid (below_later LO.out st13)
  clear st12 st13 l13 s12
  obtain ⟨e0, e1, le⟩ := KT.out.two
  obtain ⟨o13, x13, rfl⟩ : ∃ o c, v13 = .slice o 2 c := hO13.shape
  have S13 := Lib.hid (show Seg .u64 w13 (.slice o13 2 x13) [3, 9] from hO13.seg)
  clear hO13
  go_wp2_with fail
  obtain ⟨W14, hW14⟩ : ∃ W14, W14 = w13.alloc (.cells #[.int .u64 3, .int .u64 9] 32) := ⟨_, rfl⟩
  rw [← hW14]
  have s14 : Seg .u64 W14 (.slice (some ⟨w13.heap.size, 0, none⟩) 2 2) [3, 9] := by rw [hW14]; exact Seg.of_blk (l := [3, 9]) (cap := 2) (Blk.new _ _ _) (by simp) (by omega) rfl
  have st14 : Below w13.heap.size w13 W14 := by rw [hW14]; exact (Gr.alloc _ _).below
  clear hW14 e0 e1 le
  (with_reducible refine (equalu_seg _ _ [3, 9] [3, 9] W14 (S13.out.later st14) s14).mono ?_)
  rintro e w15 ⟨rfl, l15⟩
  have st15 := below_later st14 l15
  have KT := Lib.hid (KT.out.later st15)
  have SB := Lib.hid (SB.out.later st15)
  have SL := Lib.hid (SL.out.later st15)
  have LO := Lib.hid (below_later LO.out st15)
  clear st14 st15 l15 s14 S13
  obtain ⟨e0, e1, le⟩ := KT.out.two
  simp only [decide_true]
  go_wp2_with fail
  obtain ⟨W16, hW16⟩ : ∃ W16, W16 = w15.alloc (.cells #[.int .u64 2, .int .u64 9] 32) := ⟨_, rfl⟩
  rw [← hW16]
  have s16 : Seg .u64 W16 (.slice (some ⟨w15.heap.size, 0, none⟩) 2 2) [2, 9] := by rw [hW16]; exact Seg.of_blk (l := [2, 9]) (cap := 2) (Blk.new _ _ _) (by simp) (by omega) rfl
  have st16 : Below w15.heap.size w15 W16 := by rw [hW16]; exact (Gr.alloc _ _).below
  clear hW16 e0 e1 le
  (with_reducible refine (yhas_any ob 2 cb ol 3 cl [(1, 0, 1), (2, 1, 3)] [5, 3, 9] (some ⟨w15.heap.size, 0, none⟩) 2 2 [2, 9] W16 (SB.out.later st16) (SL.out.later st16) rfl rfl (by omega) (by omega) (PathAt.of_seg s16) rfl (by omega)).mono ?_)
  rw [sm_rows.2]
  rintro e w17 ⟨rfl, l17⟩
  go_wp2
  go_ret
  exact ⟨by simp, below_later LO.out (below_later st16 l17)⟩
end Go.Proofs.Ytjfnhjmdgfkgnaa

