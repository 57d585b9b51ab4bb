/- trie.Merge: the trie of both. -/
import Derived.Test.YtjfnhjmdgfkgnaaU18
import Derived.Test.YtjfnhjmdgfkgnaaN13
namespace Go.Proofs.Kit
open Go.RowKit
def mrgE (b1 : List Br) (l1 : List Int) (b2 : List Br) (l2 : List Int) : Int := if ok7 b1 l1 ∧ ok7 b2 l2 then 0 else 170
def mrgP (b1 : List Br) (l1 : List Int) (b2 : List Br) (l2 : List Int) : List Pr := if ok7 b1 l1 ∧ ok7 b2 l2 then comb true true true (prs b1 l1) (prs b2 l2) else []
structure M7 (tT : TypeId) (w : World) (va vla vb vlb : Value) (W : World) : Prop where
  k0 : Blk W w.heap.size #[va, vla] tT
  k1 : Blk W (w.heap.size + 1) #[vb, vlb] tT
  k2 : Blk W (w.heap.size + 1 + 1) #[.slice none 0 0, .slice none 0 0] tT
  low : Below w.heap.size w W
theorem M7.later {tT : TypeId} {w W W' : World} {va vla vb vlb : Value} (h : M7 tT w va vla vb vlb W) (hb : Below W.heap.size W W') : M7 tT w va vla vb vlb W' := ⟨h.k0.later hb, h.k1.later hb, h.k2.later hb, below_later h.low hb⟩
theorem M7.drew {tT : TypeId} {w W : World} {va vla vb vlb : Value} (h : M7 tT w va vla vb vlb W) : M7 tT w va vla vb vlb W.drew := h.later (Below.refl _ _).drew
theorem M7.all {tT : TypeId} {w W : World} {va vla vb vlb : Value} (h : M7 tT w va vla vb vlb W) : ((W.cell? ⟨w.heap.size, 0, none⟩ = some va ∧ W.cell? ⟨w.heap.size, 1, none⟩ = some vla) ∧ W.cell? ⟨w.heap.size + 1, 0, none⟩ = some vb ∧ W.cell? ⟨w.heap.size + 1, 1, none⟩ = some vlb) ∧ M7 tT w va vla vb vlb W := ⟨⟨⟨h.k0.cell 0, h.k0.cell 1⟩, h.k1.cell 0, h.k1.cell 1⟩, h⟩
theorem M7.new {tT : TypeId} (w : World) (va vla vb vlb : Value) : M7 tT w va vla vb vlb (((w.alloc (.cells #[va, vla] tT)).alloc (.cells #[vb, vlb] tT)).alloc (.cells #[.slice none 0 0, .slice none 0 0] tT)) :=
  ⟨((Blk.new w _ _).later (Gr.alloc _ _).below).later (Gr.alloc _ _).below, by simpa using (Blk.new (w.alloc (.cells #[va, vla] tT)) #[vb, vlb] tT).later (Gr.alloc _ _).below, by simpa using Blk.new ((w.alloc (.cells #[va, vla] tT)).alloc (.cells #[vb, vlb] tT)) #[.slice none 0 0, .slice none 0 0] tT, (((Gr.alloc _ _).trans (Gr.alloc _ _)).trans (Gr.alloc _ _)).below⟩
end Go.Proofs.Kit
namespace Go.Proofs.Ytjfnhjmdgfkgnaa
open Go.RowKit Go.Proofs.Kit
set_option maxRecDepth 100000 in
set_option maxHeartbeats 8000000 in
theorem ymerge_any (o1 : Option Addr) (m1 c1 : Nat) (o2 : Option Addr) (q1 d1 : Nat) (o3 : Option Addr) (m2 c2 : Nat) (o4 : Option Addr) (q2 d2 : Nat) (b1 b2 : List Br) (l1 l2 : List Int) (w : World)
    (h1 : SegR w (.slice o1 m1 c1) b1) (h2 : Seg .u64 w (.slice o2 q1 d1) l1) (h3 : SegR w (.slice o3 m2 c2) b2) (h4 : Seg .u64 w (.slice o4 q2 d2) l2) (k1 : b1.length ≤ 10000) (k2 : l1.length ≤ 10000) (k3 : b2.length ≤ 10000) (k4 : l2.length ≤ 10000) :
    Calls Try.prog 21 #[.agg #[.slice o1 m1 c1, .slice o2 q1 d1], .agg #[.slice o3 m2 c2, .slice o4 q2 d2]] w (TrieE w (mrgE b1 l1 b2 l2) (bof (mrgP b1 l1 b2 l2)) ((mrgP b1 l1 b2 l2).map (·.2))) := by
  have HMA := Lib.hid (fun W (g : Below w.heap.size w W) => mayBe_any (.slice o1 m1 c1) (.slice o2 q1 d1) b1 l1 W (h1.later g) (h2.later g) (by omega) (by omega))
  have HMB := Lib.hid (fun W (g : Below w.heap.size w W) => mayBe_any (.slice o3 m2 c2) (.slice o4 q2 d2) b2 l2 W (h3.later g) (h4.later g) (by omega) (by omega))
  have HPA := Lib.hid (fun W (g : Below w.heap.size w W) (hok : ok7 b1 l1) => pairs_any (.slice o1 m1 c1) (.slice o2 q1 d1) b1 l1 W (h1.later g) (h2.later g) k2 k1 hok.2.1)
  have HPB := Lib.hid (fun W (g : Below w.heap.size w W) (hok : ok7 b2 l2) => pairs_any (.slice o3 m2 c2) (.slice o4 q2 d2) b2 l2 W (h3.later g) (h4.later g) k4 k3 hok.2.1)
  have HNEW := Lib.hid (M7.new (tT := 25) w (.slice o1 m1 c1) (.slice o2 q1 d1) (.slice o3 m2 c2) (.slice o4 q2 d2))
  clear h1 h2 h3 h4
  unfold mrgE mrgP
  by_cases hp : ok7 b1 l1
  · rw [decide_eq_true hp] at HMA
    by_cases hq : ok7 b2 l2
    · rw [decide_eq_true hq] at HMB
      rw [if_pos ⟨hp, hq⟩, if_pos ⟨hp, hq⟩]
      have ta := tri hp
      have tb := tri hq
      have la : (prs b1 l1).length ≤ 10000 := by rw [ta.lenL]; exact k2
      have lb : (prs b2 l2).length ≤ 10000 := by rw [tb.lenL]; exact k4
      have HPA := Lib.hid (fun W (g : Below w.heap.size w W) => HPA.out W g hp)
      have HPB := Lib.hid (fun W (g : Below w.heap.size w W) => HPB.out W g hq)
      obtain ⟨A, hA⟩ : ∃ A, A = prs b1 l1 := ⟨_, rfl⟩
      obtain ⟨B, hB⟩ : ∃ B, B = prs b2 l2 := ⟨_, rfl⟩
      rw [← hA] at HPA la ta
      rw [← hB] at HPB lb tb
      rw [← hA, ← hB]
      have ck : ck2 A B = 0 := if_pos ⟨⟨ta.run, ta.len⟩, tb.run, tb.len⟩
      have cm : cmb true true true A B = comb true true true A B := if_pos ⟨⟨ta.run, ta.len⟩, tb.run, tb.len⟩
      have hrun := comb_run ta.run tb.run true true true
      have hlen : (comb true true true A B).length ≤ A.length + B.length := Nat.le_trans (keepP_len _ _ _ _) (tog_len _ _)
      have HUN := Lib.hid (fun va vb W (ha : SegP W va A) (hb : SegP W vb B) => union_any va vb A B W ha hb (by omega))
      rw [ck, cm] at HUN
      obtain ⟨C, hC⟩ : ∃ C, C = comb true true true A B := ⟨_, rfl⟩
      rw [← hC] at HUN hrun hlen
      rw [← hC]
      have HLA := Lib.hid (fun v W (hs : SegP W v C) => laid_any v C W hs hrun (by omega))
      clear hA hB hC ck cm ta tb la lb hlen hrun hp hq k1 k2 k3 k4
      have hmix := mixed
      go_enter Try.func21, Try.ntmps21
      go_wp2_with fail
      refine (HMA.out _ (((Gr.alloc _ _).trans (Gr.alloc _ _)).trans (Gr.alloc _ _)).below).mono ?_
      rintro e w1 ⟨rfl, l1⟩
      have m1 := HNEW.out.later l1
      obtain ⟨⟨c0, c1, lc⟩, ⟨e0, e1, le⟩⟩ := And.intro m1.k0.two m1.k1.two
      have M1 := Lib.hid m1
      clear l1 m1 HNEW HMA
      go_wp2_with fail
      refine (HMB.out _ M1.out.low).mono ?_
      rintro e w2 ⟨rfl, l2⟩
      have m2 := M1.out.later l2
      have M2 := Lib.hid m2
      clear c0 c1 lc e0 e1 le l2 M1 HMB m2
      go_upto_region 3 with fail
      go_cut [6, 7] (fun s6 s7 wx => s7 = .int .i64 0 ∧ Hid (SegP wx s6 C) ∧ Hid (M7 25 w (.slice o1 m1 c1) (.slice o2 q1 d1) (.slice o3 m2 c2) (.slice o4 q2 d2) wx))
      case first =>
        have hm := M2.out
        go_region_held3 (fun W' => ((W'.cell? ⟨w.heap.size, 0, none⟩ = some (.slice o1 m1 c1) ∧ W'.cell? ⟨w.heap.size, 1, none⟩ = some (.slice o2 q1 d1)) ∧ W'.cell? ⟨w.heap.size + 1, 0, none⟩ = some (.slice o3 m2 c2) ∧ W'.cell? ⟨w.heap.size + 1, 1, none⟩ = some (.slice o4 q2 d2)) ∧ M7 25 w (.slice o1 m1 c1) (.slice o2 q1 d1) (.slice o3 m2 c2) (.slice o4 q2 d2) W')
          (first | exact hm.all | exact hm.drew.all)
          (first
            | (go_at_call 57; (first | (with_reducible refine (HPA.out _ (by first | exact hm.low | exact hm.drew.low)).mono ?_; rintro e w3 ⟨vA, rfl, hFA, lF⟩) | (with_reducible refine (HPB.out _ (by first | exact hm.low | exact hm.drew.low)).mono ?_; rintro e w3 ⟨vB, rfl, hFB, lF⟩)); have hm := (by first | exact hm.later lF | exact hm.drew.later lF : M7 25 w (.slice o1 m1 c1) (.slice o2 q1 d1) (.slice o3 m2 c2) (.slice o4 q2 d2) w3); (first | (have hFA := hFA.later lF) | (have hFA := hFA.drew.later lF) | skip); (first | (have hFB := hFB.later lF) | (have hFB := hFB.drew.later lF) | skip))
            | (go_at_call 29; (with_reducible refine (HUN.out _ _ _ (by first | exact hFA.seg | exact hFA.seg.drew) (by first | exact hFB.seg | exact hFB.seg.drew)).mono ?_); rintro e w3 ⟨vC, rfl, hFC, lF⟩; have hm := (by first | exact hm.later lF | exact hm.drew.later lF : M7 25 w (.slice o1 m1 c1) (.slice o2 q1 d1) (.slice o3 m2 c2) (.slice o4 q2 d2) w3)))
        all_goals
          go_wp2_with fail
          go_meet
          exact ⟨rfl, Lib.hid (by first | exact hFC.seg | exact hFC.seg.drew), Lib.hid (by first | exact hm | exact hm.drew)⟩
      case rest =>
        obtain ⟨rfl, HC, HM⟩ := hcut
        have LO := Lib.hid HM.out.low
        have K2 := Lib.hid HM.out.k2
        clear HM M2 HUN HPA HPB
        go_wp2_with fail
        refine (HLA.out _ _ HC.out).mono ?_
        rintro e w5 ⟨vb, vl, rfl, hB, hL, l5⟩
        obtain ⟨o5, c5, rfl, -, -, -⟩ := hB.seg.shape
        obtain ⟨o6, c6, rfl, -, -, -⟩ := hL.seg.shape
        have k1 := K2.out.later l5
        obtain ⟨y0, y1, yl⟩ := k1.two
        obtain ⟨z0, z1⟩ := k1.z2
        obtain ⟨m5, hm5⟩ : ∃ m5, m5 = (bof C).length := ⟨_, rfl⟩
        obtain ⟨q6, hq6⟩ : ∃ q6, q6 = (C.map (·.2)).length := ⟨_, rfl⟩
        rw [← hm5] at hB ⊢
        rw [← hq6] at hL ⊢
        obtain ⟨r0, r1, _⟩ := (k1.set2 (.slice o5 m5 c5) (.slice o6 q6 c6)).two
        have HR := Lib.hid (And.intro r0 r1)
        have HB := Lib.hid (((hB.mono LO.out.size).oth (hB.ne_blk k1 (by decide)) 0 (.slice o5 m5 c5)).oth (hB.ne_blk k1 (by decide)) 1 (.slice o6 q6 c6))
        have HL := Lib.hid (((hL.mono LO.out.size).oth (hL.ne_blk k1 (by decide)) 0 (.slice o5 m5 c5)).oth (hL.ne_blk k1 (by decide)) 1 (.slice o6 q6 c6))
        have HLO := Lib.hid (((below_later LO.out l5).setCell (p := ⟨w.heap.size + 1 + 1, 0, none⟩) (by simp; omega) (.slice o5 m5 c5)).setCell (p := ⟨w.heap.size + 1 + 1, 1, none⟩) (by simp; omega) (.slice o6 q6 c6))
        clear hB hL k1 r0 r1 l5 K2 LO HLA hm5 hq6
        go_wp2
        obtain ⟨r0, r1⟩ := HR.out
        exact bodyPost_ret (v := .tuple #[.agg #[.slice o5 m5 c5, .slice o6 q6 c6], .int .i64 0]) (by simp [results, Try.results21, go_sem, r0, r1]) rfl ⟨o5, m5, c5, o6, q6, c6, rfl, HB.out, HL.out, HLO.out⟩
    · rw [decide_eq_false hq] at HMB
      rw [if_neg (fun h => hq h.2), if_neg (fun h => hq h.2)]
      clear hp hq HPA HPB k1 k2 k3 k4
      go_enter Try.func21, Try.ntmps21
      go_wp2_with fail
      refine (HMA.out _ (((Gr.alloc _ _).trans (Gr.alloc _ _)).trans (Gr.alloc _ _)).below).mono ?_
      rintro e w1 ⟨rfl, l1⟩
      have m1 := HNEW.out.later l1
      obtain ⟨⟨c0, c1, lc⟩, ⟨e0, e1, le⟩⟩ := And.intro m1.k0.two m1.k1.two
      have M1 := Lib.hid m1
      clear l1 m1 HNEW HMA
      go_wp2_with fail
      refine (HMB.out _ M1.out.low).mono ?_
      rintro e w2 ⟨rfl, l2⟩
      have m2 := M1.out.later l2
      have lo1 := Lib.hid m2.low
      have k1 := m2.k2
      obtain ⟨y0, y1, yl⟩ := k1.two
      obtain ⟨z0, z1⟩ := k1.z2
      obtain ⟨r0, r1, _⟩ := (k1.set2 (.slice none 0 0) (.slice none 0 0)).two
      have HR := Lib.hid (And.intro r0 r1)
      clear c0 c1 lc e0 e1 le l2 M1 HMB m2 k1 r0 r1
      go_wp2
      obtain ⟨r0, r1⟩ := HR.out
      exact bodyPost_ret (v := .tuple #[.agg #[.slice none 0 0, .slice none 0 0], .int .i64 170]) (by simp [results, Try.results21, go_sem, r0, r1]) rfl ⟨none, 0, 0, none, 0, 0, rfl, OwnR.nil _ _ _, Owns.nil _ _ _ _, (lo1.out.setCell (by simp; omega) _).setCell (by simp; omega) _⟩
  · rw [decide_eq_false hp] at HMA
    rw [if_neg (fun h => hp h.1), if_neg (fun h => hp h.1)]
    clear hp HPA HPB HMB k1 k2 k3 k4
    go_enter Try.func21, Try.ntmps21
    go_wp2_with fail
    refine (HMA.out _ (((Gr.alloc _ _).trans (Gr.alloc _ _)).trans (Gr.alloc _ _)).below).mono ?_
    rintro e w1 ⟨rfl, l1⟩
    have m1 := HNEW.out.later l1
    have lo1 := Lib.hid m1.low
    have k1 := m1.k2
    obtain ⟨y0, y1, yl⟩ := k1.two
    obtain ⟨z0, z1⟩ := k1.z2
    obtain ⟨r0, r1, _⟩ := (k1.set2 (.slice none 0 0) (.slice none 0 0)).two
    have HR := Lib.hid (And.intro r0 r1)
    clear l1 m1 HNEW HMA k1 r0 r1
    go_wp2
    obtain ⟨r0, r1⟩ := HR.out
    exact bodyPost_ret (v := .tuple #[.agg #[.slice none 0 0, .slice none 0 0], .int .i64 170]) (by simp [results, Try.results21, go_sem, r0, r1]) rfl ⟨none, 0, 0, none, 0, 0, rfl, OwnR.nil _ _ _, Owns.nil _ _ _ _, (lo1.out.setCell (by simp; omega) _).setCell (by simp; omega) _⟩
end Go.Proofs.Ytjfnhjmdgfkgnaa

