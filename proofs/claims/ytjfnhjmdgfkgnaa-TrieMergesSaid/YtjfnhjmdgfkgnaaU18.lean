/- trie.Cut. -/
import Derived.Test.YtjfnhjmdgfkgnaaU17
import Derived.Test.YtjfnhjmdgfkgnaaU15
namespace Go.Proofs.Kit
open Go.RowKit
def cutT (bs : List Br) (lv : List Int) (f t : Int) : List Pr := (prs bs lv).filter fun x => decide (f ≤ x.1) && decide (x.1 < t)
def cutE (bs : List Br) (lv : List Int) (f t : Int) : Int := if ok7 bs lv then (if t < f then 2 else 0) else 170
def cutQ (bs : List Br) (lv : List Int) (f t : Int) : List Pr := if ok7 bs lv ∧ f ≤ t then cutT bs lv f t else []
end Go.Proofs.Kit
namespace Go.Proofs.Ytjfnhjmdgfkgnaa
open Go.RowKit Go.Proofs.Kit
/-- How a call ends that answers a trie and an error. -/
def TrieE (w : World) (E : Int) (B : List Br) (L : List Int) (e : Ending) (w' : World) : Prop :=
  ∃ ob m cb ol q cl, e = .returned (.tuple #[.agg #[.slice ob m cb, .slice ol q cl], .int .i64 E]) ∧ OwnR 68 w.heap.size w' (.slice ob m cb) B ∧ Owns .u64 32 w.heap.size w' (.slice ol q cl) L ∧ Below w.heap.size w w'
set_option maxRecDepth 100000 in
set_option maxHeartbeats 4000000 in
theorem cut_bad (ob : Option Addr) (m cb : Nat) (ol : Option Addr) (q cl : Nat) (bs : List Br) (lv : List Int) (f t : Int) (w : World) (hb : SegR w (.slice ob m cb) bs) (hl : Seg .u64 w (.slice ol q cl) lv) (hm : bs.length = m) (hq : lv.length = q) (hml : m ≤ 10000) (hql : q ≤ 10000) (h : ¬ (ok7 bs lv ∧ f ≤ t)) :
    Calls Try.prog 22 #[.agg #[.slice ob m cb, .slice ol q cl], .int .u64 f, .int .u64 t] w (TrieE w (cutE bs lv f t) [] []) := by
  have HMB := Lib.hid (fun W (g : Below w.heap.size w W) => mayBe_any (.slice ob m cb) (.slice ol q cl) bs lv W (hb.later g) (hl.later g) (by omega) (by omega))
  unfold cutE
  clear hb hl hm hq
  by_cases hok : ok7 bs lv
  · have htf : t < f := by
      by_cases c : t < f
      · exact c
      · exact (h ⟨hok, by omega⟩).elim
    rw [decide_eq_true hok] at HMB
    rw [if_pos hok, if_pos htf]
    clear h hok
    go_enter Try.func22, Try.ntmps22
    go_wp2_with fail
    refine (HMB.out _ ((Gr.alloc _ _).trans (Gr.alloc _ _)).below).mono ?_
    rintro e w1 ⟨rfl, l1⟩
    have k1 : Blk w1 (w.heap.size + 1) #[.slice none 0 0, .slice none 0 0] 25 := by
      have := (Blk.new (w.alloc (.cells #[.slice ob m cb, .slice ol q cl] 25)) #[.slice none 0 0, .slice none 0 0] 25).later l1
      simpa using this
    have lo1 := Lib.hid (below_later ((Gr.alloc w (.cells #[.slice ob m cb, .slice ol q cl] 25)).trans (Gr.alloc _ (.cells #[.slice none 0 0, .slice none 0 0] 25))).below l1)
    obtain ⟨y0, y1, yl⟩ := k1.two
    obtain ⟨z0, z1⟩ := k1.z2
    obtain ⟨r0, r1, _⟩ := (k1.set2 (.slice none 0 0) (.slice none 0 0)).two
    have HR := Lib.hid (And.intro r0 r1)
    clear k1 l1 r0 r1 HMB
    go_wp2
    obtain ⟨r0, r1⟩ := HR.out
    exact bodyPost_ret (v := .tuple #[.agg #[.slice none 0 0, .slice none 0 0], .int .i64 2]) (by simp [results, Try.results22, go_sem, r0, r1]) rfl ⟨none, 0, 0, none, 0, 0, rfl, OwnR.nil _ _ _, Owns.nil _ _ _ _, (lo1.out.setCell (by simp) _).setCell (by simp) _⟩
  · rw [decide_eq_false hok] at HMB
    rw [if_neg hok]
    clear h hok
    go_enter Try.func22, Try.ntmps22
    go_wp2_with fail
    refine (HMB.out _ ((Gr.alloc _ _).trans (Gr.alloc _ _)).below).mono ?_
    rintro e w1 ⟨rfl, l1⟩
    have k1 : Blk w1 (w.heap.size + 1) #[.slice none 0 0, .slice none 0 0] 25 := by
      have := (Blk.new (w.alloc (.cells #[.slice ob m cb, .slice ol q cl] 25)) #[.slice none 0 0, .slice none 0 0] 25).later l1
      simpa using this
    have lo1 := Lib.hid (below_later ((Gr.alloc w (.cells #[.slice ob m cb, .slice ol q cl] 25)).trans (Gr.alloc _ (.cells #[.slice none 0 0, .slice none 0 0] 25))).below l1)
    obtain ⟨y0, y1, yl⟩ := k1.two
    obtain ⟨z0, z1⟩ := k1.z2
    obtain ⟨r0, r1, _⟩ := (k1.set2 (.slice none 0 0) (.slice none 0 0)).two
    have HR := Lib.hid (And.intro r0 r1)
    clear k1 l1 r0 r1 HMB
    go_wp2
    obtain ⟨r0, r1⟩ := HR.out
    exact bodyPost_ret (v := .tuple #[.agg #[.slice none 0 0, .slice none 0 0], .int .i64 170]) (by simp [results, Try.results22, go_sem, r0, r1]) rfl ⟨none, 0, 0, none, 0, 0, rfl, OwnR.nil _ _ _, Owns.nil _ _ _ _, (lo1.out.setCell (by simp) _).setCell (by simp) _⟩
/-- part, whichever. -/
theorem part_any (ob : Option Addr) (m cb : Nat) (ol : Option Addr) (q cl : Nat) (bs : List Br) (lv : List Int) (T : List Pr) (i j : Nat) (w : World) (hb : SegR w (.slice ob m cb) bs) (hl : Seg .u64 w (.slice ol q cl) lv) (hm : bs.length = m) (hq : lv.length = q) (hml : m ≤ 10000) (hql : q ≤ 10000) (hc : CutR bs lv T i j) :
    Calls Try.prog 61 #[.agg #[.slice ob m cb, .slice ol q cl], .int .i64 (i : Int), .int .i64 (j : Int)] w fun e w' => ∃ o1 m1 c1 o2 q2 c2, e = .returned (.agg #[.slice o1 m1 c1, .slice o2 q2 c2]) ∧
      OwnR 68 w.heap.size w' (.slice o1 m1 c1) (bof T) ∧ Owns .u64 32 w.heap.size w' (.slice o2 q2 c2) (T.map (·.2)) ∧ Below w.heap.size w w' := by
  by_cases hij : i = j
  · subst hij
    rw [hc.no rfl]
    refine (part_none ob m cb ol q cl i w).mono ?_
    rintro e w' ⟨rfl, hlow⟩
    exact ⟨none, 0, 0, none, 0, 0, rfl, OwnR.nil _ _ _, Owns.nil _ _ _ _, hlow⟩
  · have h1 : i < j := by have := hc.le; omega
    obtain ⟨s, t, hs, ht, hst, htq, hB, hL, hbd⟩ := hc.yes h1 hc.lm
    have hjm := hc.lm
    obtain ⟨b, f, rfl, _⟩ := hb.has (i := i) (by omega)
    obtain ⟨bl, fl, rfl⟩ : ∃ bl fl, ol = some ⟨bl, fl, none⟩ := by
      rcases hl.2 with ⟨_, e0⟩ | ⟨b', f', c', e0, _⟩
      · rw [e0] at htq; simp at htq; omega
      · injection e0 with e0 _ _
        exact ⟨b', f', e0⟩
    refine (part_some b f m cb bl fl q cl bs lv i j s t w hb hl hm hq (by omega) (by omega) h1 (by omega) hs ht hst (by omega) hbd).mono ?_
    rintro e w' ⟨o1, m1, c1, o2, q2, c2, rfl, h1, h2, h3⟩
    rw [hB] at h1
    rw [hL] at h2
    exact ⟨o1, m1, c1, o2, q2, c2, rfl, h1, h2, h3⟩
set_option maxRecDepth 100000 in
set_option maxHeartbeats 8000000 in
theorem cut_ok (ob : Option Addr) (m cb : Nat) (ol : Option Addr) (q cl : Nat) (bs : List Br) (lv : List Int) (f t : Int) (w : World) (hb : SegR w (.slice ob m cb) bs) (hl : Seg .u64 w (.slice ol q cl) lv) (hm : bs.length = m) (hq : lv.length = q) (hml : m ≤ 10000) (hql : q ≤ 10000) (hok : ok7 bs lv) (hft : f ≤ t) :
    Calls Try.prog 22 #[.agg #[.slice ob m cb, .slice ol q cl], .int .u64 f, .int .u64 t] w (TrieE w 0 (bof (cutT bs lv f t)) ((cutT bs lv f t).map (·.2))) := by
  have hcr := cut_res (tri hok) hft
  obtain ⟨T, hT⟩ : ∃ T, T = cutT bs lv f t := ⟨_, rfl⟩
  have hT2 := hT
  unfold cutT at hT2
  rw [← hT2] at hcr
  rw [← hT]
  obtain ⟨i, hi⟩ : ∃ i, i = plcU (keysB bs) f := ⟨_, rfl⟩
  obtain ⟨j, hj⟩ : ∃ j, j = plcU (keysB bs) t := ⟨_, rfl⟩
  rw [← hi, ← hj] at hcr
  have hkr := keys_rise hok.2.1
  have hkn : (keysB bs).length = m := by rw [← hm]; simp [keysB]
  have HMB := Lib.hid (fun W (g : Below w.heap.size w W) => mayBe_any (.slice ob m cb) (.slice ol q cl) bs lv W (hb.later g) (hl.later g) (by omega) (by omega))
  rw [decide_eq_true hok] at HMB
  have HPA := Lib.hid (fun W (g : Below w.heap.size w W) => part_any ob m cb ol q cl bs lv T i j W (hb.later g) (hl.later g) hm hq hml hql hcr)
  have HTOP := Lib.hid (fun W (g : Below w.heap.size w W) => top_any ob m cb ol q cl bs W (hb.later g) hm (by omega))
  have HPL := Lib.hid (fun o c W key (h : Seg .u64 W (.slice o m c) (keysB bs)) => place_look ob m cb ol q cl o m c (keysB bs) key W h hkn hkr (by omega))
  have HI := Lib.hid hi
  have HJ := Lib.hid hj
  have hg : decide (t < f) = false := by simp; omega
  clear hb hl hm hq hok hft hcr hT hT2 hi hj hkr hkn
  go_enter Try.func22, Try.ntmps22
  go_wp2_with fail
  refine (HMB.out _ ((Gr.alloc _ _).trans (Gr.alloc _ _)).below).mono ?_
  rintro e w1 ⟨rfl, l1⟩
  have k0 : Blk w1 w.heap.size #[.slice ob m cb, .slice ol q cl] 25 := ((Blk.new w #[.slice ob m cb, .slice ol q cl] 25).alloc (.cells #[.slice none 0 0, .slice none 0 0] 25)).later l1
  have k1 : Blk w1 (w.heap.size + 1) #[.slice none 0 0, .slice none 0 0] 25 := by
    have := (Blk.new (w.alloc (.cells #[.slice ob m cb, .slice ol q cl] 25)) #[.slice none 0 0, .slice none 0 0] 25).later l1
    simpa using this
  have lo1 := below_later ((Gr.alloc w (.cells #[.slice ob m cb, .slice ol q cl] 25)).trans (Gr.alloc _ (.cells #[.slice none 0 0, .slice none 0 0] 25))).below l1
  obtain ⟨c0, c1, lc⟩ := k0.two
  have K0 := Lib.hid k0
  have K1 := Lib.hid k1
  have LO1 := Lib.hid lo1
  clear k0 k1 lo1 l1 HMB
  go_wp2_with fail
  refine (HTOP.out _ LO1.out).mono ?_
  rintro e w2 ⟨o2, x2, rfl, hO2, l2⟩
  obtain ⟨W2, hW2⟩ : ∃ W2, W2 = w2.alloc (.cells #[.slice ob m cb, .slice ol q cl, .slice o2 m x2] 92) := ⟨_, rfl⟩
  have gw : Gr w2 W2 := by rw [hW2]; exact Gr.alloc _ _
  have kA : Blk W2 w2.heap.size #[.slice ob m cb, .slice ol q cl, .slice o2 m x2] 92 := by rw [hW2]; exact Blk.new _ _ _
  have K0 := Lib.hid ((K0.out.later l2).later gw.below)
  have K1 := Lib.hid ((K1.out.later l2).later gw.below)
  have LO2 := Lib.hid (below_later (below_later LO1.out l2) gw.below)
  have HS2 := Lib.hid (hO2.seg.later gw.below)
  obtain ⟨a0, a1, a2, la⟩ := kA.c3
  have KA := Lib.hid kA
  clear hO2 l2 gw kA c0 c1 lc LO1 HTOP
  go_wp2_with fail
  rw [← hW2]
  clear hW2
  refine (HPL.out o2 x2 _ f HS2.out).mono ?_
  rw [← HI.out]
  rintro e w3 ⟨rfl, g3⟩
  obtain ⟨b0, b1, b2, lb⟩ := (KA.out.later g3.below).c3
  obtain ⟨c0, c1, lc⟩ := (K0.out.later g3.below).two
  have K1 := Lib.hid (K1.out.later g3.below)
  have K0 := Lib.hid (K0.out.later g3.below)
  have LO3 := Lib.hid (below_later LO2.out g3.below)
  have HS3 := Lib.hid (HS2.out.later g3.below)
  clear g3 a0 a1 a2 la HS2 LO2 KA
  go_wp2_with fail
  refine (HPL.out o2 x2 _ t HS3.out).mono ?_
  rw [← HJ.out]
  rintro e w4 ⟨rfl, g4⟩
  obtain ⟨c0, c1, lc⟩ := (K0.out.later g4.below).two
  have K1 := Lib.hid (K1.out.later g4.below)
  have LO4 := Lib.hid (below_later LO3.out g4.below)
  clear g4 b0 b1 b2 lb HS3 LO3 K0 HPL
  go_wp2_with fail
  refine (HPA.out _ LO4.out).mono ?_
  rintro e w5 ⟨o5, m5, c5, o6, q6, c6, rfl, hB, hL, l5⟩
  have k1 := K1.out.later l5
  obtain ⟨y0, y1, yl⟩ := k1.two
  obtain ⟨z0, z1⟩ := k1.z2
  obtain ⟨r0, r1, _⟩ := (k1.set2 (.slice o5 m5 c5) (.slice o6 q6 c6)).two
  have HR := Lib.hid (And.intro r0 r1)
  have HB := Lib.hid (((hB.mono LO4.out.size).oth (hB.ne_blk k1 (by decide)) 0 (.slice o5 m5 c5)).oth (hB.ne_blk k1 (by decide)) 1 (.slice o6 q6 c6))
  have HL := Lib.hid (((hL.mono LO4.out.size).oth (hL.ne_blk k1 (by decide)) 0 (.slice o5 m5 c5)).oth (hL.ne_blk k1 (by decide)) 1 (.slice o6 q6 c6))
  have HLO := Lib.hid (((below_later LO4.out l5).setCell (p := ⟨w.heap.size + 1, 0, none⟩) (by simp) (.slice o5 m5 c5)).setCell (p := ⟨w.heap.size + 1, 1, none⟩) (by simp) (.slice o6 q6 c6))
  clear hB hL k1 r0 r1 l5 K1 LO4 HPA c0 c1 lc
  go_wp2
  obtain ⟨r0, r1⟩ := HR.out
  exact bodyPost_ret (v := .tuple #[.agg #[.slice o5 m5 c5, .slice o6 q6 c6], .int .i64 0]) (by simp [results, Try.results22, go_sem, r0, r1]) rfl ⟨o5, m5, c5, o6, q6, c6, rfl, HB.out, HL.out, HLO.out⟩
theorem ycut_any (ob : Option Addr) (m cb : Nat) (ol : Option Addr) (q cl : Nat) (bs : List Br) (lv : List Int) (f t : Int) (w : World) (hb : SegR w (.slice ob m cb) bs) (hl : Seg .u64 w (.slice ol q cl) lv) (hm : bs.length = m) (hq : lv.length = q) (hml : m ≤ 10000) (hql : q ≤ 10000) :
    Calls Try.prog 22 #[.agg #[.slice ob m cb, .slice ol q cl], .int .u64 f, .int .u64 t] w (TrieE w (cutE bs lv f t) (bof (cutQ bs lv f t)) ((cutQ bs lv f t).map (·.2))) := by
  by_cases h : ok7 bs lv ∧ f ≤ t
  · have e1 : cutE bs lv f t = 0 := by unfold cutE; rw [if_pos h.1, if_neg (by omega)]
    have e2 : cutQ bs lv f t = cutT bs lv f t := if_pos h
    rw [e1, e2]
    exact cut_ok ob m cb ol q cl bs lv f t w hb hl hm hq hml hql h.1 h.2
  · have e2 : cutQ bs lv f t = [] := if_neg h
    rw [e2]
    exact cut_bad ob m cb ol q cl bs lv f t w hb hl hm hq hml hql h
end Go.Proofs.Ytjfnhjmdgfkgnaa

