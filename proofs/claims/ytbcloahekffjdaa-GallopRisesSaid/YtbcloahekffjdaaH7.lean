/- gallop.meet and gallop.Meet. -/
import Derived.Test.YtbcloahekffjdaaH5
import Derived.Test.YtbcloahekffjdaaH6
import Derived.Test.YtbcloahekffjdaaSegB
import Derived.Laws.CopyOwn
namespace Go.Proofs.Kit
open Go.RowKit
theorem zeros_cells (k : IntKind) (n : Nat) : (madeCells #[Value.int k 0] n).toList = (List.replicate n 0).map (Value.int k) := by
  apply List.ext_getElem
  · simp [madeCells]
  · intro i h1 h2
    simp [madeCells, Nat.mod_one]
/-- What a copy leaves in a block that was made for it. -/
theorem splice_all {α : Type} (cur cs : List α) (h : cur.length = cs.length) : splice cur 0 cs = cs := by
  unfold splice
  rw [List.drop_of_length_le (by omega)]
  simp
theorem Owns.of_blk {k : IntKind} {t : TypeId} {B g : Nat} {w : World} {l : List Int} (hB : B ≤ g) (hb : Blk w g (l.map (Value.int k)).toArray t) (hm : l.length ≤ 9223372036854775807) : Owns k t B w (.slice (some ⟨g, 0, none⟩) l.length l.length) l :=
  ⟨by simp, .inr ⟨g, l.length, (l.map (Value.int k)).toArray, rfl, hB, hb, Nat.le_refl _, by unfold maxLen; omega, by simp, by simp [List.take_of_length_le]⟩⟩
theorem take_set_snoc {L F : List Int} (h : L.take F.length = F) (hl : F.length < L.length) (x : Int) : (L.set F.length x).take (F ++ [x]).length = F ++ [x] := by
  rw [List.length_append, List.length_singleton, List.take_succ_eq_append_getElem (by simpa using hl), List.take_set, List.set_eq_of_length_le (by simp; omega), h]
  simp
end Go.Proofs.Kit
namespace Go.Proofs.Ytbcloahekffjdaa
open Go.RowKit Go.Proofs.Kit Go.Shelf

set_option maxHeartbeats 400000 in
theorem ucmp_lt (x y : Int) (h : x < y) (w : World) : Calls Try.prog 43 #[.int .u64 x, .int .u64 y] w fun e w' => e = .returned (.int .i64 (-1)) ∧ w' = w := by
  go_enter Try.func43, Try.ntmps43
  go_wp2
  go_ret
  exact ⟨rfl, rfl⟩
set_option maxHeartbeats 400000 in
theorem ucmp_eq (x : Int) (w : World) : Calls Try.prog 43 #[.int .u64 x, .int .u64 x] w fun e w' => e = .returned (.int .i64 0) ∧ w' = w := by
  go_enter Try.func43, Try.ntmps43
  go_wp2
  go_ret
  exact ⟨rfl, rfl⟩
set_option maxHeartbeats 400000 in
theorem ucmp_gt (x y : Int) (h : y < x) (w : World) : Calls Try.prog 43 #[.int .u64 x, .int .u64 y] w fun e w' => e = .returned (.int .i64 1) ∧ w' = w := by
  have h1 : decide (x < y) = false := by simp; omega
  go_enter Try.func43, Try.ntmps43
  go_wp2
  go_ret
  exact ⟨rfl, rfl⟩

set_option maxRecDepth 100000 in
set_option maxHeartbeats 4000000 in
theorem meet_any (va vb : Value) (A B : List Int) (w : World) (ha : Seg .u64 w va A) (hb : Seg .u64 w vb B) (la : A.length ≤ 100000) (lb : B.length ≤ 100000) (ia : Inc A) (ib : Inc B) :
    Calls Try.prog 36 #[va, vb] w fun e w' => ∃ (v : Value) (q : Nat), e = .returned (.tuple #[v, .int .i64 (q : Int)]) ∧ Owns .u64 27 w.heap.size w' v (mt A B) ∧ q ≤ 8 + 8 * min A.length B.length * (1 + Nat.log2 (1 + max A.length B.length)) ∧ Below w.heap.size w w' := by
  obtain ⟨i0, hi, hz0, hz1, hz2⟩ := infou
  have hmix : Try.prog.follows .mixedOrders = true := by kernel_rfl
  have HSA := Lib.hid ha
  have HSB := Lib.hid hb
  obtain ⟨oa, ca, rfl, _, _, ha'⟩ := ha.shape
  obtain ⟨ob, cb, rfl, _, _, hb'⟩ := hb.shape
  obtain ⟨na, hna⟩ : ∃ n, n = A.length := ⟨_, rfl⟩
  obtain ⟨nb, hnb⟩ : ∃ n, n = B.length := ⟨_, rfl⟩
  have HCA := Lib.hid ha'
  have HCB := Lib.hid hb'
  have HIA := Lib.hid ia
  have HIB := Lib.hid ib
  rw [← hna] at la HSA ⊢
  rw [← hnb] at lb HSB ⊢
  have HNA := Lib.hid hna
  have HNB := Lib.hid hnb
  clear ha hb ha' hb' ia ib hna hnb
  obtain ⟨mm, hmm⟩ : ∃ mm, mm = min na nb := ⟨_, rfl⟩
  have HMM := Lib.hid hmm
  have hm1 : mm ≤ na := by omega
  have hm2 : mm ≤ nb := by omega
  clear hmm
  go_enter Try.func36, Try.ntmps36
  go_upto_region 1 with (fail)
  go_cut [6] from 13 to 18 (fun s6 wc => s6 = .slice (some ⟨w.heap.size, 0, none⟩) mm mm ∧ Hid (Owns .u64 27 w.heap.size wc (.slice (some ⟨w.heap.size, 0, none⟩) mm mm) (List.replicate mm 0)) ∧ Hid (Below w.heap.size w wc))
  case first =>
    have close : ∀ w1 : World, w1.ownsRow w.heap.size 27 1 (.slice (some ⟨w.heap.size, 0, none⟩) mm mm) mm (madeCells #[.int .u64 0] mm).toList → w.grownBy w1 none → Hid (Owns .u64 27 w.heap.size w1 (.slice (some ⟨w.heap.size, 0, none⟩) mm mm) (List.replicate mm 0)) ∧ Hid (Below w.heap.size w w1) := by
      intro w1 hown hgrow
      refine ⟨Lib.hid ?_, Lib.hid ((Below.refl _ _).grown hgrow (Nat.le_refl _) (fun _ h => by cases h))⟩
      unfold Owns
      rw [List.length_replicate, ← zeros_cells]
      exact hown
    have HCL := Lib.hid close
    clear close
    have HMN := Lib.hid (show min (na : Int) (nb : Int) = (mm : Int) by have := HMM.out; omega)
    go_wp2_with (at_make; refine wpList_make_full _ rfl _ _ 22 rfl w.heap.size 27 i0 (.int .u64 0) 1 Try.underlying22 hi hz0 hz1 .i64 .i64 _ _ mm rfl rfl HMN.out HMN.out ?qa1 ?qa2 ?qa3 ?_)
    case qa1 => rw [hz2]; omega
    case qa2 => unfold maxLen; omega
    case qa3 => exact Nat.le_refl _
    intro w1 hown hgrow
    have h := HCL.out w1 hown hgrow
    clear hown hgrow
    go_wp2
    go_meet
    exact ⟨rfl, h⟩
  case rest =>
    obtain ⟨rfl, HO, HBL⟩ := hcut
    go_wp2
    go_loopg [7, 8, 9, 10, 11] (na + nb) (fun kx s7 s8 s9 s10 _ wr => ∃ (i j q m : Nat) (F L : List Int), s7 = .int .i64 (m : Int) ∧ s8 = .int .i64 (i : Int) ∧ s9 = .int .i64 (j : Int) ∧ s10 = .int .i64 (q : Int) ∧ (na - i) + (nb - j) ≤ kx ∧ i ≤ na ∧ j ≤ nb ∧ m ≤ i ∧ m ≤ j ∧ q ≤ 200000000 ∧ Hid (MI A B i j F q) ∧ Hid (m = F.length ∧ L.length = mm ∧ L.take F.length = F) ∧
      Hid (Owns .u64 27 w.heap.size wr (.slice (some ⟨w.heap.size, 0, none⟩) mm mm) L) ∧ Hid (Below w.heap.size w wr))
    case atStart => exact ⟨0, 0, 0, 0, [], List.replicate mm 0, rfl, rfl, rfl, rfl, by omega, by omega, by omega, by omega, by omega, by omega, Lib.hid (MI.start A B), Lib.hid ⟨rfl, by simp, by simp⟩, HO, HBL⟩
    case round =>
      clear HO HBL
      obtain ⟨i, j, q, m, F, L, rfl, rfl, rfl, rfl, hkx, hin, hjn, hmi, hmj, hq, HMI, HL, HO, HB⟩ := hrel
      by_cases hboth : i < na ∧ j < nb
      · obtain ⟨hia, hjb⟩ := hboth
        have hiA : i < A.length := by have := HNA.out; omega
        have hjB : j < B.length := by have := HNB.out; omega
        obtain ⟨ba, fa, rfl, hba, ca⟩ := HCA.out.resolve_left (fun e => by rw [e] at hiA; simp at hiA)
        obtain ⟨bb, fb, rfl, hbb, cb⟩ := HCB.out.resolve_left (fun e => by rw [e] at hjB; simp at hjB)
        have d1 := (HB.out.cell (p := ⟨ba, fa + i, none⟩) hba).trans (ca i hiA)
        have d2 := (HB.out.cell (p := ⟨bb, fb + j, none⟩) hbb).trans (cb j hjB)
        obtain ⟨x, hx⟩ : ∃ x, x = A[i] := ⟨_, rfl⟩
        obtain ⟨y, hy⟩ : ∃ y, y = B[j] := ⟨_, rfl⟩
        rw [← hx] at d1
        rw [← hy] at d2
        have HX := Lib.hid hx
        have HY := Lib.hid hy
        have g1 : decide (i < na) = true := by simpa using hia
        have g2 : decide (j < nb) = true := by simpa using hjb
        clear ca cb hx hy
        rcases Int.lt_trichotomy x y with hlt | heq | hgt
        · have HC := Lib.hid (fun k : Nat => ucmp_lt x y hlt (wr.drewN k))
          have HLT := Lib.hid hlt
          clear hlt
          go_wp2
          go_quiet ((go_at_call 43; exact Calls.quiet_of_same (HC.out _)))
          have d1' : (wr.drewN nq).cell? ⟨ba, fa + i, none⟩ = some (.int .u64 x) := d1
          have d2' : (wr.drewN nq).cell? ⟨bb, fb + j, none⟩ = some (.int .u64 y) := d2
          have B1 : Below w.heap.size w (wr.drewN nq) := HB.out.trans (Dr.drewN wr nq).below
          have O1 : Owns .u64 27 w.heap.size (wr.drewN nq) (.slice (some ⟨w.heap.size, 0, none⟩) mm mm) L := HO.out
          obtain ⟨wq, hwq⟩ : ∃ wq, wq = wr.drewN nq := ⟨_, rfl⟩
          rw [← hwq] at d1' d2' B1 O1 ⊢
          clear hwq d1 d2
          go_wp2_with (go_at_call 34; refine (gatLeast_any _ _).mono ?_; rintro e w' ⟨rfl, rfl⟩)
          have e1 : (i : Int) + 1 = ((i + 1 : Nat) : Int) := by omega
          rw [e1]
          clear e1
          have S1 := (HSA.out.later B1).alloc (.cells #[.int .u64 y] 27)
          refine (place_ge _ A _ S1 (by have := HNA.out; omega) HIA.out (i + 1) (by have := HNA.out; omega) wq.heap.size y (Blk.new _ _ _)).mono ?_
          rintro e w2 ⟨d, rfl, hd, b2⟩
          have B2 : Below w.heap.size w w2 := below_al B1 b2
          have O2 : Owns .u64 27 w.heap.size w2 _ L := (O1.alloc (.cells #[.int .u64 y] 27)).later b2
          have hM := HMI.out.left HIB.out hiA hjB (by rw [← HX.out, ← HY.out]; exact HLT.out) (by rw [← HY.out]; exact hd)
          rw [← HY.out] at hM
          have hg := sk_ge (ge y) A (i + 1)
          have hle := sk_le (p := ge y) (l := A) (f := i + 1) (by omega)
          obtain ⟨i1, hi1⟩ : ∃ i1, i1 = sk (ge y) A (i + 1) := ⟨_, rfl⟩
          rw [← hi1] at hM hg hle ⊢
          have hq2 := hM.small (by have := HNA.out; omega) (by have := HNB.out; omega)
          have HM := Lib.hid hM
          have HB2 := Lib.hid B2
          have HO2 := Lib.hid O2
          have hle' : i1 ≤ na := by have := HNA.out; omega
          clear hM B2 O2 hd b2 B1 O1 S1 hi1 hle
          go_wp2
          go_roundg (na - i1 + (nb - j))
          case measure => omega
          case rel => exact ⟨i1, j, q + 1 + d, m, F, L, rfl, rfl, rfl, by go_num, Nat.le_refl _, hle', hjn, by omega, hmj, hq2, HM, HL, HO2, HB2⟩
        · have HE := Lib.hid heq
          have HC : Hid (∀ k : Nat, Calls Try.prog 43 #[.int .u64 x, .int .u64 y] (wr.drewN k) fun e w' => e = .returned (.int .i64 0) ∧ w' = wr.drewN k) := Lib.hid (fun k => by rw [heq]; exact ucmp_eq y (wr.drewN k))
          clear heq
          go_wp2
          go_quiet ((go_at_call 43; exact Calls.quiet_of_same (HC.out _)))
          have d1' : (wr.drewN nq).cell? ⟨ba, fa + i, none⟩ = some (.int .u64 x) := d1
          have B1 : Below w.heap.size w (wr.drewN nq) := HB.out.trans (Dr.drewN wr nq).below
          have O1 : Owns .u64 27 w.heap.size (wr.drewN nq) (.slice (some ⟨w.heap.size, 0, none⟩) mm mm) L := HO.out
          obtain ⟨wq, hwq⟩ : ∃ wq, wq = wr.drewN nq := ⟨_, rfl⟩
          rw [← hwq] at d1' B1 O1 ⊢
          clear hwq d1 d2
          have hmm' : m < mm := by have := HMM.out; omega
          have hmL : m < L.length := by have := HL.out.2.1; omega
          obtain ⟨g, cap, hv, -, -, hg0, hgl, hcell, hfr, hset⟩ := O1.set hmL x
          obtain rfl : g = w.heap.size := by injection hv with e1 e2 e3; injection e1 with e1; injection e1 with e1; exact e1.symm
          have hM := HMI.out.both HIA.out HIB.out hiA hjB (by rw [← HX.out, ← HY.out]; exact HE.out)
          rw [← HX.out] at hM
          have hq2 := hM.small (by have := HNA.out; omega) (by have := HNB.out; omega)
          have HM := Lib.hid hM
          have HSET := Lib.hid hset
          have HB1 := Lib.hid B1
          clear hM hset B1 O1 hv
          go_wp2
          go_roundg (na - (i + 1) + (nb - (j + 1)))
          case measure => omega
          case rel =>
            obtain ⟨h1, h2, h3⟩ := HL.out
            refine ⟨i + 1, j + 1, q + 1, m + 1, F ++ [x], L.set m x, by go_num, by go_num, by go_num, by go_num, Nat.le_refl _, by omega, by omega, by omega, by omega, hq2, HM, Lib.hid ⟨by simp [h1], by simp [h2], ?_⟩, HSET, Lib.hid (HB1.out.setCell (Nat.le_refl _) _)⟩
            subst h1
            exact take_set_snoc h3 hmL x
        · have HC := Lib.hid (fun k : Nat => ucmp_gt x y hgt (wr.drewN k))
          have HLT := Lib.hid hgt
          clear hgt
          go_wp2
          go_quiet ((go_at_call 43; exact Calls.quiet_of_same (HC.out _)))
          have d1' : (wr.drewN nq).cell? ⟨ba, fa + i, none⟩ = some (.int .u64 x) := d1
          have d2' : (wr.drewN nq).cell? ⟨bb, fb + j, none⟩ = some (.int .u64 y) := d2
          have B1 : Below w.heap.size w (wr.drewN nq) := HB.out.trans (Dr.drewN wr nq).below
          have O1 : Owns .u64 27 w.heap.size (wr.drewN nq) (.slice (some ⟨w.heap.size, 0, none⟩) mm mm) L := HO.out
          obtain ⟨wq, hwq⟩ : ∃ wq, wq = wr.drewN nq := ⟨_, rfl⟩
          rw [← hwq] at d1' d2' B1 O1 ⊢
          clear hwq d1 d2
          go_wp2_with (go_at_call 34; refine (gatLeast_any _ _).mono ?_; rintro e w' ⟨rfl, rfl⟩)
          have e1 : (j : Int) + 1 = ((j + 1 : Nat) : Int) := by omega
          rw [e1]
          clear e1
          have S1 := (HSB.out.later B1).alloc (.cells #[.int .u64 x] 27)
          refine (place_ge _ B _ S1 (by have := HNB.out; omega) HIB.out (j + 1) (by have := HNB.out; omega) wq.heap.size x (Blk.new _ _ _)).mono ?_
          rintro e w2 ⟨d, rfl, hd, b2⟩
          have B2 : Below w.heap.size w w2 := below_al B1 b2
          have O2 : Owns .u64 27 w.heap.size w2 _ L := (O1.alloc (.cells #[.int .u64 x] 27)).later b2
          have hM := HMI.out.right HIA.out hiA hjB (by rw [← HX.out, ← HY.out]; exact HLT.out) (by rw [← HX.out]; exact hd)
          rw [← HX.out] at hM
          have hg := sk_ge (ge x) B (j + 1)
          have hle := sk_le (p := ge x) (l := B) (f := j + 1) (by omega)
          obtain ⟨j1, hi1⟩ : ∃ j1, j1 = sk (ge x) B (j + 1) := ⟨_, rfl⟩
          rw [← hi1] at hM hg hle ⊢
          have hq2 := hM.small (by have := HNA.out; omega) (by have := HNB.out; omega)
          have HM := Lib.hid hM
          have HB2 := Lib.hid B2
          have HO2 := Lib.hid O2
          have hle' : j1 ≤ nb := by have := HNB.out; omega
          clear hM B2 O2 hd b2 B1 O1 S1 hi1 hle
          go_wp2
          go_roundg (na - i + (nb - j1))
          case measure => omega
          case rel => exact ⟨i, j1, q + 1 + d, m, F, L, rfl, rfl, rfl, by go_num, Nat.le_refl _, hin, hle', hmi, by omega, hq2, HM, HL, HO2, HB2⟩
      · have hD := HMI.out.done (by have := HNA.out; have := HNB.out; omega)
        have HD := Lib.hid hD
        by_cases hia : i < na
        case pos =>
          have g1 : decide (i < na) = true := by simpa using hia
          have g2 : decide (j < nb) = false := by simpa using fun h => hboth ⟨hia, h⟩
          clear hboth
          go_wp2_with (at_make; refine wpList_make_full _ rfl _ _ 22 rfl wr.heap.size 27 i0 (.int .u64 0) 1 Try.underlying22 hi hz0 hz1 .i64 .i64 _ _ m rfl rfl rfl rfl ?qa1 ?qa2 ?qa3 ?_)
          case qa1 => rw [hz2]; omega
          case qa2 => unfold maxLen; omega
          case qa3 => exact Nat.le_refl _
          intro w4 hown hgrow
          have hb4 : Below wr.heap.size wr w4 := (Below.refl _ _).grown hgrow (Nat.le_refl _) (fun _ h => by cases h)
          have O4 : Owns .u64 27 w.heap.size w4 (.slice (some ⟨w.heap.size, 0, none⟩) mm mm) L := HO.out.later hb4
          obtain ⟨g, capg, cur, hge, hgb, hgh, _, _, hgs, _⟩ := hown.2.resolve_left (by rintro ⟨e, _⟩; cases e)
          obtain ⟨rfl, rfl⟩ : g = wr.heap.size ∧ capg = m := by injection hge with e1 e2 e3; injection e1 with e1; injection e1 with e1; exact ⟨e1.symm, e3.symm⟩
          have hcur : cur.toList.length = capg := by simpa using hgs
          have hgh' : w4.heap[wr.heap.size]? = some (.cells cur.toList.toArray 27 (0, 0)) := by simpa using hgh
          have HH := Lib.hid hgh'
          obtain ⟨cs, hcs⟩ : ∃ cs, cs = F.map (Value.int .u64) := ⟨_, rfl⟩
          have hcl : cs.length = capg := by rw [hcs, List.length_map, HL.out.1]
          have hone : ∀ u ∈ cs, u.oneCell' = true := by rw [hcs]; exact ints_oneCell _ _
          have hmm2 : capg ≤ mm := by have := HMM.out; omega
          have hsrc : ∀ j v, cs[j]? = some v → w4.cell? ⟨w.heap.size, j, none⟩ = some v := by
            intro j u hj
            rw [hcs] at hj
            have hj' : j < F.length := by have := (List.getElem?_eq_some_iff.1 hj).1; simpa using this
            obtain ⟨h1, h2, h3⟩ := HL.out
            have hjL : j < L.length := by omega
            obtain ⟨b, off, cap, e1, _, _, _, hc⟩ := O4.seg.2.resolve_left (by rintro ⟨e, _⟩; cases e)
            injection e1 with e1 e2 e3
            injection e1 with e1
            injection e1 with e1 e4 _
            subst e1 e4
            have := hc j hjL
            rw [Nat.zero_add] at this
            rw [this, ← hj]
            have e5 : F[j] = L[j] := by
              have : (L.take F.length)[j]'(by simp; omega) = L[j] := List.getElem_take
              rw [← this]
              simp only [h3]
            simp [hj', e5]
          have HCS := Lib.hid hcs
          have HSRC := Lib.hid hsrc
          have HCL := Lib.hid hcl
          have HCUR := Lib.hid hcur
          have HB4 := Lib.hid hb4
          clear hown hgrow hge hgh hgs hgh' hcs hsrc hcl hcur O4 hb4
          go_wp2_with (with_reducible refine wpList_copy_splice rfl (.tmp 86) (.tmp 87) 22 22 rfl 27 Try.underlying22 ?qb0 (some ⟨wr.heap.size, 0, none⟩) (some ⟨w.heap.size, 0, none⟩) capg capg mm mm rfl rfl wr.heap.size 0 cur.toList 27 HH.out cs ?qb1 ?qb2 ?qb3 hone wr.heap.size wr HB4.out (Nat.le_refl _) ?_)
          case qb0 => rw [hi]; simp [hz1]
          case qb1 => rw [HCL.out]; exact (Nat.min_eq_right hmm2).symm
          case qb2 => exact fun _ => HSRC.out
          case qb3 => have := HCL.out; have := HCUR.out; omega
          intro w5 hg5 hb5
          go_wp2
          go_ret2
          obtain ⟨h1, h2⟩ := HD.out
          have hblk : Blk w5 wr.heap.size (splice cur.toList 0 cs).toArray 27 := hg5.out
          rw [splice_all _ _ (by have := HCL.out; have := HCUR.out; omega), HCS.out] at hblk
          refine ⟨_, q, rfl, ?_, by rw [HNA.out, HNB.out]; exact h2, HB.out.trans (hb5.mono HB.out.size)⟩
          rw [← h1, HL.out.1]
          exact Owns.of_blk HB.out.size hblk (by have := HL.out.1; omega)
        case neg =>
          have g1 : decide (i < na) = false := by simpa using hia
          clear hboth
          go_wp2_with (at_make; refine wpList_make_full _ rfl _ _ 22 rfl wr.heap.size 27 i0 (.int .u64 0) 1 Try.underlying22 hi hz0 hz1 .i64 .i64 _ _ m rfl rfl rfl rfl ?qa1 ?qa2 ?qa3 ?_)
          case qa1 => rw [hz2]; omega
          case qa2 => unfold maxLen; omega
          case qa3 => exact Nat.le_refl _
          intro w4 hown hgrow
          have hb4 : Below wr.heap.size wr w4 := (Below.refl _ _).grown hgrow (Nat.le_refl _) (fun _ h => by cases h)
          have O4 : Owns .u64 27 w.heap.size w4 (.slice (some ⟨w.heap.size, 0, none⟩) mm mm) L := HO.out.later hb4
          obtain ⟨g, capg, cur, hge, hgb, hgh, _, _, hgs, _⟩ := hown.2.resolve_left (by rintro ⟨e, _⟩; cases e)
          obtain ⟨rfl, rfl⟩ : g = wr.heap.size ∧ capg = m := by injection hge with e1 e2 e3; injection e1 with e1; injection e1 with e1; exact ⟨e1.symm, e3.symm⟩
          have hcur : cur.toList.length = capg := by simpa using hgs
          have hgh' : w4.heap[wr.heap.size]? = some (.cells cur.toList.toArray 27 (0, 0)) := by simpa using hgh
          have HH := Lib.hid hgh'
          obtain ⟨cs, hcs⟩ : ∃ cs, cs = F.map (Value.int .u64) := ⟨_, rfl⟩
          have hcl : cs.length = capg := by rw [hcs, List.length_map, HL.out.1]
          have hone : ∀ u ∈ cs, u.oneCell' = true := by rw [hcs]; exact ints_oneCell _ _
          have hmm2 : capg ≤ mm := by have := HMM.out; omega
          have hsrc : ∀ j v, cs[j]? = some v → w4.cell? ⟨w.heap.size, j, none⟩ = some v := by
            intro j u hj
            rw [hcs] at hj
            have hj' : j < F.length := by have := (List.getElem?_eq_some_iff.1 hj).1; simpa using this
            obtain ⟨h1, h2, h3⟩ := HL.out
            have hjL : j < L.length := by omega
            obtain ⟨b, off, cap, e1, _, _, _, hc⟩ := O4.seg.2.resolve_left (by rintro ⟨e, _⟩; cases e)
            injection e1 with e1 e2 e3
            injection e1 with e1
            injection e1 with e1 e4 _
            subst e1 e4
            have := hc j hjL
            rw [Nat.zero_add] at this
            rw [this, ← hj]
            have e5 : F[j] = L[j] := by
              have : (L.take F.length)[j]'(by simp; omega) = L[j] := List.getElem_take
              rw [← this]
              simp only [h3]
            simp [hj', e5]
          have HCS := Lib.hid hcs
          have HSRC := Lib.hid hsrc
          have HCL := Lib.hid hcl
          have HCUR := Lib.hid hcur
          have HB4 := Lib.hid hb4
          clear hown hgrow hge hgh hgs hgh' hcs hsrc hcl hcur O4 hb4
          go_wp2_with (with_reducible refine wpList_copy_splice rfl (.tmp 86) (.tmp 87) 22 22 rfl 27 Try.underlying22 ?qb0 (some ⟨wr.heap.size, 0, none⟩) (some ⟨w.heap.size, 0, none⟩) capg capg mm mm rfl rfl wr.heap.size 0 cur.toList 27 HH.out cs ?qb1 ?qb2 ?qb3 hone wr.heap.size wr HB4.out (Nat.le_refl _) ?_)
          case qb0 => rw [hi]; simp [hz1]
          case qb1 => rw [HCL.out]; exact (Nat.min_eq_right hmm2).symm
          case qb2 => exact fun _ => HSRC.out
          case qb3 => have := HCL.out; have := HCUR.out; omega
          intro w5 hg5 hb5
          go_wp2
          go_ret2
          obtain ⟨h1, h2⟩ := HD.out
          have hblk : Blk w5 wr.heap.size (splice cur.toList 0 cs).toArray 27 := hg5.out
          rw [splice_all _ _ (by have := HCL.out; have := HCUR.out; omega), HCS.out] at hblk
          refine ⟨_, q, rfl, ?_, by rw [HNA.out, HNB.out]; exact h2, HB.out.trans (hb5.mono HB.out.size)⟩
          rw [← h1, HL.out.1]
          exact Owns.of_blk HB.out.size hblk (by have := HL.out.1; omega)

/-- What Meet tells. -/
def mtI (a b : List Int) : List Int := if Inc a ∧ Inc b then mt a b else []
/-- How many looks Meet may take. -/
def lkM (a b : List Int) : Nat := if Inc a ∧ Inc b then 8 + 8 * min a.length b.length * (1 + Nat.log2 (1 + max a.length b.length)) else 0
theorem mtI_len (a b : List Int) : (mtI a b).length ≤ a.length := by
  unfold mtI
  split
  · exact mt_len a b
  · simp
set_option maxHeartbeats 1000000 in
theorem gMeet_any (va vb : Value) (A B : List Int) (w : World) (ha : Seg .u64 w va A) (hb : Seg .u64 w vb B) (la : A.length ≤ 100000) (lb : B.length ≤ 100000) :
    Calls Try.prog 20 #[va, vb] w fun e w' => ∃ (v : Value) (q : Nat), e = .returned (.tuple #[v, .int .i64 (q : Int)]) ∧ Owns .u64 27 w.heap.size w' v (mtI A B) ∧ q ≤ lkM A B ∧ Below w.heap.size w w' := by
  have HA := Lib.hid ha
  have HB := Lib.hid hb
  have HLA := Lib.hid la
  have HLB := Lib.hid lb
  obtain ⟨oa, ca, rfl, _, _, _⟩ := ha.shape
  obtain ⟨ob, cb, rfl, _, _, _⟩ := hb.shape
  clear ha hb la lb
  by_cases hi : Inc A
  · have hIA := Lib.hid (decide_eq_true hi)
    have HI := Lib.hid hi
    by_cases hj : Inc B
    · have hIB := Lib.hid (decide_eq_true hj)
      have HJ := Lib.hid hj
      have e1 := Lib.hid (show mtI A B = mt A B from if_pos ⟨hi, hj⟩)
      have e2 := Lib.hid (show lkM A B = 8 + 8 * min A.length B.length * (1 + Nat.log2 (1 + max A.length B.length)) from if_pos ⟨hi, hj⟩)
      clear hi hj
      go_enter Try.func20, Try.ntmps20
      go_wp2_with fail
      refine (rises_any _ A _ HA.out).mono ?_
      rw [hIA.out]
      rintro e w1 ⟨rfl, d1⟩
      go_wp2_with fail
      refine (rises_any _ B _ (HB.out.later d1.below)).mono ?_
      rw [hIB.out]
      rintro e w2 ⟨rfl, d2⟩
      have d := d1.trans d2
      go_wp2_with fail
      refine (meet_any _ _ A B _ (HA.out.later d.below) (HB.out.later d.below) HLA.out HLB.out HI.out HJ.out).mono ?_
      rintro e w3 ⟨v, q, rfl, ho, hq, hb⟩
      have HO := Lib.hid ho
      have HQ := Lib.hid hq
      clear ho hq
      go_wp2
      go_ret2
      refine ⟨v, q, rfl, ?_, ?_, below_later d.below hb⟩
      · rw [e1.out]; exact HO.out.mono (d.below (B := 0)).size
      · rw [e2.out]; exact HQ.out
    · have hIB := Lib.hid (decide_eq_false hj)
      have e1 := Lib.hid (show mtI A B = [] from if_neg fun h => hj h.2)
      clear hi hj
      go_enter Try.func20, Try.ntmps20
      go_wp2_with fail
      refine (rises_any _ A _ HA.out).mono ?_
      rw [hIA.out]
      rintro e w1 ⟨rfl, d1⟩
      go_wp2_with fail
      refine (rises_any _ B _ (HB.out.later d1.below)).mono ?_
      rw [hIB.out]
      rintro e w2 ⟨rfl, d2⟩
      have d := d1.trans d2
      go_wp2
      go_ret2
      refine ⟨_, 0, rfl, ?_, Nat.zero_le _, d.below⟩
      rw [e1.out]; exact Owns.nil _ _ _ _
  · have hIA := Lib.hid (decide_eq_false hi)
    have e1 := Lib.hid (show mtI A B = [] from if_neg fun h => hi h.1)
    clear hi
    go_enter Try.func20, Try.ntmps20
    go_wp2_with fail
    refine (rises_any _ A _ HA.out).mono ?_
    rw [hIA.out]
    rintro e w1 ⟨rfl, d1⟩
    go_wp2
    go_ret2
    refine ⟨_, 0, rfl, ?_, Nat.zero_le _, d1.below⟩
    rw [e1.out]; exact Owns.nil _ _ _ _
end Go.Proofs.Ytbcloahekffjdaa
