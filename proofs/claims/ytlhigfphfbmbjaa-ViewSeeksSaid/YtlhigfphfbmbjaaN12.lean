/- run.together: two runs told as one; run.combine; Union, Minus, Meet. -/
import Derived.Test.YtlhigfphfbmbjaaN11
import Derived.Test.YtlhigfphfbmbjaaRngG
import Derived.Test.YtlhigfphfbmbjaaN10
import Derived.Shelf.RegionOpen
import Derived.OwnWalkIn
import Derived.TacticsInMore
import Derived.LoopNIn
import Derived.LoopIn
import Derived.WalkMore
import Derived.Deep.LoopGhost
import Derived.Deep.DeepCutAuto
import Derived.Maps.AppendAt
namespace Go.Proofs.Kit
open Go.RowKit
theorem tog_cons {a b : List Pr} (h : a ≠ [] ∨ b ≠ []) : ∃ (p : Pr) (a' b' : List Pr), tog a b = (p, sideP a b) :: tog a' b' ∧
    ((sideP a b = 0 ∧ a = p :: a' ∧ b' = b) ∨ (sideP a b = 1 ∧ a = p :: a' ∧ b = p :: b') ∨ (sideP a b = 2 ∧ b = p :: b' ∧ a' = a)) := by
  match a, b with
  | [], [] => simp at h
  | [], y :: b => exact ⟨y, [], b, by rw [tog]; rfl, .inr (.inr ⟨rfl, rfl, rfl⟩)⟩
  | x :: a, [] => exact ⟨x, a, [], by rw [tog]; rfl, .inl ⟨rfl, rfl, rfl⟩⟩
  | x :: a, y :: b =>
    rw [tog]
    simp only [sideP]
    by_cases e : x = y
    · subst e
      rw [if_pos rfl, if_pos rfl]
      exact ⟨x, a, b, rfl, .inr (.inl ⟨rfl, rfl, rfl⟩)⟩
    · rw [if_neg e, if_neg e]
      by_cases k : lt2 x y
      · rw [if_pos k, if_pos k]
        exact ⟨x, a, y :: b, rfl, .inl ⟨rfl, rfl, rfl⟩⟩
      · rw [if_neg k, if_neg k]
        exact ⟨y, x :: a, b, rfl, .inr (.inr ⟨rfl, rfl, rfl⟩)⟩
/-- What the iterator reads. -/
def KK (t : TypeId) (bx1 bx2 : Nat) (va vb : Value) (la lb : List Pr) (X : World) : Prop := Blk X bx1 #[va] t ∧ Blk X bx2 #[vb] t ∧ SegP X va la ∧ SegP X vb lb
theorem KK.later {t : TypeId} {bx1 bx2 : Nat} {va vb : Value} {la lb : List Pr} {X X' : World} (h : KK t bx1 bx2 va vb la lb X) (hb : Below X.heap.size X X') : KK t bx1 bx2 va vb la lb X' := ⟨h.1.later hb, h.2.1.later hb, h.2.2.1.later hb, h.2.2.2.later hb⟩
/-- What is left of a slice behind i. -/
theorem SegP.from {w : World} {o : Option Addr} {n c i : Nat} {l : List Pr} (h : SegP w (.slice o n c) l) (hi : i ≤ n) : SegP w (.slice (if c = i then o else Option.map (fun x => x.add (i * 2)) o) (n - i) (c - i)) (l.drop i) := by
  have hl62 := h.1
  rcases h.2 with ⟨h1, rfl⟩ | ⟨b, f, cap, h1, h2, h3, h4, h5⟩
  · injection h1 with e1 e2 e3
    subst e1 e2 e3
    obtain rfl : i = 0 := by omega
    simpa using SegP.nil w
  · injection h1 with e1 e2 e3
    subst e1 e2 e3
    have hl : (l.drop i).length = l.length - i := by simp
    refine ⟨by omega, .inr ?_⟩
    by_cases e : c = i
    · rw [if_pos e]
      exact ⟨b, f, c - i, by rw [hl], by omega, by omega, h4, fun k hk => by omega⟩
    · rw [if_neg e]
      refine ⟨b, f + i * 2, c - i, by rw [hl]; simp [Addr.add_lit], by omega, by omega, h4, ?_⟩
      intro k hk
      have := h5 (i + k) (by omega)
      rw [show f + i * 2 + k * 2 = f + (i + k) * 2 by omega]
      simpa using this
theorem SegP.has {w : World} {o : Option Addr} {n c i : Nat} {l : List Pr} (h : SegP w (.slice o n c) l) (hi : i < l.length) : ∃ b f, o = some ⟨b, f, none⟩ ∧ b < w.heap.size ∧ PCells w b f l := by
  rcases h.2 with ⟨h1, rfl⟩ | ⟨b, f, cap, h1, h2, h3, h4, h5⟩
  · simp at hi
  · injection h1 with e1 e2 e3
    exact ⟨b, f, e1, h4, h5⟩
theorem drop_cons_of {l : List Pr} {i : Nat} {p : Pr} {a : List Pr} (h : l.drop i = p :: a) : ∃ hi : i < l.length, l[i] = p ∧ l.drop (i + 1) = a := by
  have hi : i < l.length := by
    by_cases c : i < l.length
    · exact c
    · rw [List.drop_of_length_le (by omega)] at h; cases h
  rw [List.drop_eq_getElem_cons hi] at h
  injection h with h1 h2
  exact ⟨hi, h1, h2⟩
end Go.Proofs.Kit
namespace Go.Proofs.Ytlhigfphfbmbjaa
open Go.RowKit Go.Proofs.Kit Go.Shelf
attribute [local go_sem] Oper.semAt_some
/-- A side. -/
def Sd (x : Pr × Int) : Prop := x.2 = 0 ∨ x.2 = 1 ∨ x.2 = 2
/-- What a pair and its side are told as. -/
abbrev encS (x : Pr × Int) : Array Value := #[PV x.1.1 x.1.2, .int .i64 x.2]
set_option maxRecDepth 100000 in
set_option maxHeartbeats 4000000 in
theorem together1_in (n : Nat) (hn : 1 ≤ n) (bx1 bx2 : Nat) (va vb : Value) (la lb : List Pr) (hla : la.length ≤ 1048576) (hlb : lb.length ≤ 1048576) :
    SeqG Fence.wide n Try.prog 120 #[.pointer (some ⟨bx1, 0, none⟩), .pointer (some ⟨bx2, 0, none⟩)] encS (fun xs => xs = tog la lb) (fun _ => True) (la.length + lb.length) (KK 22 bx1 bx2 va vb la lb) Sd := by
  intro l J Jx W hJK hJB hY h0
  have hmix := mixed
  have hK0 := hJK _ _ h0
  obtain ⟨oa, ca, rfl, qa, qa', ha⟩ := hK0.2.2.1.shape
  obtain ⟨ob, cb, rfl, qb, qb', hb⟩ := hK0.2.2.2.shape
  obtain ⟨na, hna⟩ : ∃ na, na = la.length := ⟨_, rfl⟩
  obtain ⟨nb, hnb⟩ : ∃ nb, nb = lb.length := ⟨_, rfl⟩
  rw [← hna] at hla qa hJK hY
  rw [← hnb] at hlb qb hJK hY
  have HJK := Lib.hid hJK
  have HJB := Lib.hid hJB
  have HY := Lib.hid hY
  have HNA := Lib.hid hna
  have HNB := Lib.hid hnb
  clear hJK hJB hY hna hnb hK0 ha hb
  refine callsIn_wide.2 ?_
  go_enter Try.func120, Try.ntmps120
  go_wp2
  go_step3
  go_wp2
  go_step3
  go_wp2
  go_loopg [4, 5] (na + nb) (fun kx x y wr => ∃ (pre : List (Pr × Int)) (i j : Nat), x = .int .i64 (i : Int) ∧ y = .int .i64 (j : Int) ∧ i ≤ na ∧ j ≤ nb ∧ na + nb - i - j ≤ kx ∧ Hid (J pre wr) ∧ Hid (pre ++ tog (la.drop i) (lb.drop j) = tog la lb))
  case atStart => exact ⟨[], 0, 0, rfl, rfl, Nat.zero_le _, Nat.zero_le _, by omega, Lib.hid h0, Lib.hid (by simp)⟩
  case round =>
    obtain ⟨pre, i, j, rfl, rfl, hi, hj, hkx, HJ, HP⟩ := hrel
    have hK := HJK.out _ _ HJ.out
    have c1 := hK.1.cell 0
    have c2 := hK.2.1.cell 0
    have HK := Lib.hid hK
    simp only [List.getElem?_toArray, List.getElem?_cons_zero] at c1 c2
    have k1 : ∀ n os, (Sort.grow (wr.drewN n) os).cell? ⟨bx1, 0, none⟩ = some (.slice oa na ca) := fun n os => cell_grown (a := ⟨bx1, 0, none⟩) hK.1.lt (hK.1.cell 0) n os
    have k2 : ∀ n os, (Sort.grow (wr.drewN n) os).cell? ⟨bx2, 0, none⟩ = some (.slice ob nb cb) := fun n os => cell_grown (a := ⟨bx2, 0, none⟩) hK.2.1.lt (hK.2.1.cell 0) n os
    clear hK
    have SA := Lib.hid (fun (n : Nat) (os : Array Obj) => ((HK.out.2.2.1.later (Gr.grown wr n os).below).from hi))
    have SB := Lib.hid (fun (n : Nat) (os : Array Obj) => ((HK.out.2.2.2.later (Gr.grown wr n os).below).from hj))
    have g2 : (i : Int) ≤ (na : Int) := by omega
    have g3 : (j : Int) ≤ (nb : Int) := by omega
    by_cases hmore : i < na ∨ j < nb
    · have hne : la.drop i ≠ [] ∨ lb.drop j ≠ [] := by
        rcases hmore with h | h
        · exact .inl (fun e => by have h1 := List.length_eq_zero_iff.2 e; have := HNA.out; rw [List.length_drop] at h1; omega)
        · exact .inr (fun e => by have h1 := List.length_eq_zero_iff.2 e; have := HNB.out; rw [List.length_drop] at h1; omega)
      obtain ⟨p, a', b', htog, hcase⟩ := tog_cons hne
      obtain ⟨s, hs⟩ : ∃ s, s = sideP (la.drop i) (lb.drop j) := ⟨_, rfl⟩
      rw [← hs] at htog hcase
      have hpre : pre ++ [(p, s)] ++ tog a' b' = tog la lb := by rw [← HP.out, htog]; simp
      have hlen : pre.length < na + nb := by
        have h1 := tog_len la lb
        rw [← hpre] at h1
        have := HNA.out
        have := HNB.out
        simp at h1
        omega
      have HS := Lib.hid hs
      have HPRE := Lib.hid hpre
      clear hs hpre htog hne
      have LE := Lib.hid (fun (n : Nat) (os : Array Obj) => Calls.gr_of (P := Try.prog) (least_any _ _ (la.drop i) (lb.drop j) _ (SA.out n os) (SB.out n os)))
      rw [← HS.out] at LE
      obtain ⟨p1, p2⟩ := p
      rcases hcase with ⟨rfl, hA, hB⟩ | ⟨rfl, hA, hB⟩ | ⟨rfl, hB, hA⟩
      · obtain ⟨hil, hx, ha'⟩ := drop_cons_of hA
        have hin : i < na := by have := HNA.out; omega
        have g1 : (i : Int) < (na : Int) := by omega
        have HX := Lib.hid hx
        have HA' := Lib.hid ha'
        have HB' := Lib.hid hB
        clear hA hx ha' hB hmore
        go_wp2
        go_quiet_grown ((go_at_call 121; exact LE.out _ _))
        generalize (if ca = i then oa else Option.map (fun x => x.add (i * 2)) oa) = xa
        generalize (if cb = j then ob else Option.map (fun x => x.add (j * 2)) ob) = xb
        have hgr := Gr.grown wr nq osq
        obtain ⟨wq, hwq⟩ : ∃ wq, wq = Sort.grow (wr.drewN nq) osq := ⟨_, rfl⟩
        rw [← hwq] at hgr ⊢
        clear hwq c1 c2 k1 k2
        have hKq := HK.out.later hgr.below
        have c1 := hKq.1.cell 0
        have c2 := hKq.2.1.cell 0
        simp only [List.getElem?_toArray, List.getElem?_cons_zero] at c1 c2
        obtain ⟨ba, fa, rfl, hba, hcells⟩ := hKq.2.2.1.has hil
        obtain ⟨d1, d2⟩ := hcells i hil
        rw [HX.out] at d1 d2
        simp only at d1 d2
        clear hcells
        have hb1 := hKq.1.lt
        have hb2 := hKq.2.1.lt
        have HGR := Lib.hid hgr
        clear hKq hgr
        go_upto_region 10 with (fail)
        refine (wpIn_wide (n := n)).1 ?_
        have hJ1 : J pre (wq.alloc (.cells #[.int .u64 p1, .int .u64 p2] 53)) := HJB.out _ _ _ (HJB.out _ _ _ HJ.out HGR.out.below) (Gr.alloc _ _).below
        obtain ⟨fn, tmps, assign, body, hy, hRd⟩ := HY.out pre ((p1, p2), 0) _ hJ1 hlen (.inl rfl)
        dsimp only [encS] at hy
        clear hJ1
        gi_wp2_with fail
        refine hRd.mono ?_
        rintro e W3 (⟨rfl, hJ3⟩ | ⟨rfl, hJ3⟩)
        · gi_wp2_with fail
          go_wp2
          go_roundg (na + nb - (i + 1) - (j))
          case measure => omega
          case rel => exact ⟨pre ++ [((p1, p2), 0)], i + 1, j, by go_num, by go_num, by omega, by omega, by omega, Lib.hid hJ3, Lib.hid (by rw [HA'.out, ← HB'.out]; exact HPRE.out)⟩
        · gi_wp2_with fail
          go_wp2
          simp only [Exit.noGoto]
          go_end0
          exact ⟨⟨_, rfl⟩, .inr ⟨_, trivial, hJ3⟩⟩
      · obtain ⟨hil, hx, ha'⟩ := drop_cons_of hA
        obtain ⟨hjl, hy, hb'⟩ := drop_cons_of hB
        have hin : i < na := by have := HNA.out; omega
        have hjn : j < nb := by have := HNB.out; omega
        have g1 : (i : Int) < (na : Int) := by omega
        have g4 : (j : Int) < (nb : Int) := by omega
        have HX := Lib.hid hx
        have HX2 := Lib.hid hy
        have HA' := Lib.hid ha'
        have HB' := Lib.hid hb'
        clear hA hx ha' hB hb' hy hmore
        go_wp2
        go_quiet_grown ((go_at_call 121; exact LE.out _ _))
        generalize (if ca = i then oa else Option.map (fun x => x.add (i * 2)) oa) = xa
        generalize (if cb = j then ob else Option.map (fun x => x.add (j * 2)) ob) = xb
        have hgr := Gr.grown wr nq osq
        obtain ⟨wq, hwq⟩ : ∃ wq, wq = Sort.grow (wr.drewN nq) osq := ⟨_, rfl⟩
        rw [← hwq] at hgr ⊢
        clear hwq c1 c2 k1 k2
        have hKq := HK.out.later hgr.below
        have c1 := hKq.1.cell 0
        have c2 := hKq.2.1.cell 0
        simp only [List.getElem?_toArray, List.getElem?_cons_zero] at c1 c2
        obtain ⟨ba, fa, rfl, hba, hcells⟩ := hKq.2.2.1.has hil
        obtain ⟨d1, d2⟩ := hcells i hil
        rw [HX.out] at d1 d2
        simp only at d1 d2
        clear hcells
        obtain ⟨bb, fb, rfl, hbb, hcells⟩ := hKq.2.2.2.has hjl
        obtain ⟨d3, d4⟩ := hcells j hjl
        rw [HX2.out] at d3 d4
        simp only at d3 d4
        clear hcells
        have hb1 := hKq.1.lt
        have hb2 := hKq.2.1.lt
        have HGR := Lib.hid hgr
        clear hKq hgr
        go_upto_region 10 with (fail)
        refine (wpIn_wide (n := n)).1 ?_
        have hJ1 : J pre (wq.alloc (.cells #[.int .u64 p1, .int .u64 p2] 53)) := HJB.out _ _ _ (HJB.out _ _ _ HJ.out HGR.out.below) (Gr.alloc _ _).below
        obtain ⟨fn, tmps, assign, body, hy, hRd⟩ := HY.out pre ((p1, p2), 1) _ hJ1 hlen (.inr (.inl rfl))
        dsimp only [encS] at hy
        clear hJ1
        gi_wp2_with fail
        refine hRd.mono ?_
        rintro e W3 (⟨rfl, hJ3⟩ | ⟨rfl, hJ3⟩)
        · gi_wp2_with fail
          go_wp2
          go_roundg (na + nb - (i + 1) - (j + 1))
          case measure => omega
          case rel => exact ⟨pre ++ [((p1, p2), 1)], i + 1, j + 1, by go_num, by go_num, by omega, by omega, by omega, Lib.hid hJ3, Lib.hid (by rw [HA'.out, HB'.out]; exact HPRE.out)⟩
        · gi_wp2_with fail
          go_wp2
          simp only [Exit.noGoto]
          go_end0
          exact ⟨⟨_, rfl⟩, .inr ⟨_, trivial, hJ3⟩⟩
      · obtain ⟨hjl, hy, hb'⟩ := drop_cons_of hB
        have hjn : j < nb := by have := HNB.out; omega
        have g4 : (j : Int) < (nb : Int) := by omega
        have HX2 := Lib.hid hy
        have HA' := Lib.hid hA
        have HB' := Lib.hid hb'
        clear hA hB hb' hy hmore
        by_cases hin : i < na
        · have g1 : (i : Int) < (na : Int) := by omega
          go_wp2
          go_quiet_grown ((go_at_call 121; exact LE.out _ _))
          generalize (if ca = i then oa else Option.map (fun x => x.add (i * 2)) oa) = xa
          generalize (if cb = j then ob else Option.map (fun x => x.add (j * 2)) ob) = xb
          have hgr := Gr.grown wr nq osq
          obtain ⟨wq, hwq⟩ : ∃ wq, wq = Sort.grow (wr.drewN nq) osq := ⟨_, rfl⟩
          rw [← hwq] at hgr ⊢
          clear hwq c1 c2 k1 k2
          have hKq := HK.out.later hgr.below
          have c1 := hKq.1.cell 0
          have c2 := hKq.2.1.cell 0
          simp only [List.getElem?_toArray, List.getElem?_cons_zero] at c1 c2
          obtain ⟨bb, fb, rfl, hbb, hcells⟩ := hKq.2.2.2.has hjl
          obtain ⟨d3, d4⟩ := hcells j hjl
          rw [HX2.out] at d3 d4
          simp only at d3 d4
          clear hcells
          have hb1 := hKq.1.lt
          have hb2 := hKq.2.1.lt
          have HGR := Lib.hid hgr
          clear hKq hgr
          go_upto_region 10 with (fail)
          refine (wpIn_wide (n := n)).1 ?_
          have hJ1 : J pre (wq.alloc (.cells #[.int .u64 p1, .int .u64 p2] 53)) := HJB.out _ _ _ (HJB.out _ _ _ HJ.out HGR.out.below) (Gr.alloc _ _).below
          obtain ⟨fn, tmps, assign, body, hy, hRd⟩ := HY.out pre ((p1, p2), 2) _ hJ1 hlen (.inr (.inr rfl))
          dsimp only [encS] at hy
          clear hJ1
          gi_wp2_with fail
          refine hRd.mono ?_
          rintro e W3 (⟨rfl, hJ3⟩ | ⟨rfl, hJ3⟩)
          · gi_wp2_with fail
            go_wp2
            go_roundg (na + nb - (i) - (j + 1))
            case measure => omega
            case rel => exact ⟨pre ++ [((p1, p2), 2)], i, j + 1, by go_num, by go_num, by omega, by omega, by omega, Lib.hid hJ3, Lib.hid (by rw [← HA'.out, HB'.out]; exact HPRE.out)⟩
          · gi_wp2_with fail
            go_wp2
            simp only [Exit.noGoto]
            go_end0
            exact ⟨⟨_, rfl⟩, .inr ⟨_, trivial, hJ3⟩⟩
        · have hgN : decide (i < na) = false := by simp; omega
          have hia : i = na := by omega
          have HIA := Lib.hid hia
          clear hin hia
          go_wp2
          go_quiet_grown ((go_at_call 121; exact LE.out _ _))
          generalize (if ca = i then oa else Option.map (fun x => x.add (i * 2)) oa) = xa
          generalize (if cb = j then ob else Option.map (fun x => x.add (j * 2)) ob) = xb
          have hgr := Gr.grown wr nq osq
          obtain ⟨wq, hwq⟩ : ∃ wq, wq = Sort.grow (wr.drewN nq) osq := ⟨_, rfl⟩
          rw [← hwq] at hgr ⊢
          clear hwq c1 c2 k1 k2
          have hKq := HK.out.later hgr.below
          have c1 := hKq.1.cell 0
          have c2 := hKq.2.1.cell 0
          simp only [List.getElem?_toArray, List.getElem?_cons_zero] at c1 c2
          obtain ⟨bb, fb, rfl, hbb, hcells⟩ := hKq.2.2.2.has hjl
          obtain ⟨d3, d4⟩ := hcells j hjl
          rw [HX2.out] at d3 d4
          simp only at d3 d4
          clear hcells
          have hb1 := hKq.1.lt
          have hb2 := hKq.2.1.lt
          have HGR := Lib.hid hgr
          clear hKq hgr
          go_upto_region 10 with (fail)
          refine (wpIn_wide (n := n)).1 ?_
          have hJ1 : J pre (wq.alloc (.cells #[.int .u64 p1, .int .u64 p2] 53)) := HJB.out _ _ _ (HJB.out _ _ _ HJ.out HGR.out.below) (Gr.alloc _ _).below
          obtain ⟨fn, tmps, assign, body, hy, hRd⟩ := HY.out pre ((p1, p2), 2) _ hJ1 hlen (.inr (.inr rfl))
          dsimp only [encS] at hy
          clear hJ1
          gi_wp2_with fail
          refine hRd.mono ?_
          rintro e W3 (⟨rfl, hJ3⟩ | ⟨rfl, hJ3⟩)
          · gi_wp2_with fail
            go_wp2
            go_roundg (na + nb - (i) - (j + 1))
            case measure => have := HIA.out; omega
            case rel => exact ⟨pre ++ [((p1, p2), 2)], i, j + 1, by go_num, by go_num, by omega, by omega, by omega, Lib.hid hJ3, Lib.hid (by rw [← HA'.out, HB'.out]; exact HPRE.out)⟩
          · gi_wp2_with fail
            go_wp2
            simp only [Exit.noGoto]
            go_end0
            exact ⟨⟨_, rfl⟩, .inr ⟨_, trivial, hJ3⟩⟩
    · have hi' : i = na := by omega
      have hj' : j = nb := by omega
      have hend : pre = tog la lb := by
        have h := HP.out
        rw [List.drop_of_length_le (by have := HNA.out; omega), List.drop_of_length_le (by have := HNB.out; omega)] at h
        simpa [tog] using h
      have HE := Lib.hid hend
      have hg1 : decide (i < na) = false := by simp; omega
      have hg2 : decide (j < nb) = false := by simp; omega
      clear hi' hj' hend hmore g2 g3 k1 k2
      go_wp2
      simp only [Exit.noGoto]
      go_end0
      exact ⟨⟨_, rfl⟩, .inl ⟨_, HE.out, HJ.out⟩⟩
end Go.Proofs.Ytlhigfphfbmbjaa

