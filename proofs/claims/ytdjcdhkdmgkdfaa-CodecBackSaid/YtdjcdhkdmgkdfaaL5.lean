/- CodecBack: the law's walk. -/
import Derived.Test.YtdjcdhkdmgkdfaaE1
import Derived.Test.YtdjcdhkdmgkdfaaL4
namespace Go.Proofs.Ytdjcdhkdmgkdfaa
open Go.RowKit Go.Proofs.Kit Go.Shelf

/-- Between two calls of the law: what lay there lies there, and what it goes by is there. -/
structure YS (w : World) (vA vB vL : Value) (a b L : List Int) (w' : World) : Prop where
  bl : Below w.heap.size w w'
  sA : Seg .u8 w' vA a
  sB : Seg .u8 w' vB b
  sL : Seg .u64 w' vL L
section
variable {w w' w'' : World} {vA vB vL : Value} {a b L : List Int}
theorem YS.later (h : YS w vA vB vL a b L w') (hb : Below w'.heap.size w' w'') : YS w vA vB vL a b L w'' := ⟨h.bl.trans (hb.mono h.bl.size), h.sA.later hb, h.sB.later hb, h.sL.later hb⟩
theorem YS.alloc (h : YS w vA vB vL a b L w') (o : Obj) : YS w vA vB vL a b L (w'.alloc o) := h.later ((Below.refl _ _).alloc (Nat.le_refl _) _)
end
/-- What is put between others, as Concat puts it. -/
theorem mid_at (a x c : List Int) : (a ++ x ++ c).drop a.length = x ++ c := by rw [List.append_assoc, List.drop_left]
theorem byt_app {a b : List Int} (ha : Byt a) (hb : Byt b) : Byt (a ++ b) := fun x hx => (List.mem_append.1 hx).elim (ha x) (hb x)
theorem byt_row (l : List Int) : Byt (rowB l) := by
  intro x hx
  obtain ⟨y, _, hy⟩ := List.mem_flatMap.1 hx
  exact sept_byt _ x hy

set_option maxRecDepth 100000 in
set_option maxHeartbeats 8000000 in
theorem back_true (o1 o2 o3 : Option Addr) (n1 n2 n3 c1 c2 c3 : Nat) (l1 l2 l3 : List Int) (w : World)
    (e1 : l1.length = n1) (e2 : l2.length = n2) (e3 : l3.length = n3) (hc1 : n1 ≤ c1) (hc2 : n2 ≤ c2) (hc3 : n3 ≤ c3) (hm1 : c1 ≤ 9223372036854775807) (hm2 : c2 ≤ 9223372036854775807) (hm3 : c3 ≤ 9223372036854775807)
    (a1 : ArgI .u8 w o1 c1 l1) (a2 : ArgI .u8 w o2 c2 l2) (a3 : ArgI .u64 w o3 c3 l3) (b1 : Byt l1) (b2 : Byt l2) (b3 : ∀ x ∈ l3, 0 ≤ x ∧ x < 18446744073709551616) :
    Calls Try.prog 4 #[.slice o1 n1 c1, .slice o2 n2 c2, .slice o3 n3 c3] w fun e w' => e = .returned (.bool true) ∧ Below w.heap.size w w' := by
  have E1 := Lib.hid e1
  have E2 := Lib.hid e2
  have E3 := Lib.hid e3
  have A1 := Lib.hid a1
  have A2 := Lib.hid a2
  have A3 := Lib.hid a3
  have hba : Byt (l1.take 300) := fun x hx => b1 x (List.mem_of_mem_take hx)
  have hbb : Byt (l2.take 300) := fun x hx => b2 x (List.mem_of_mem_take hx)
  have hbl : ∀ x ∈ l3.take 40, 0 ≤ x ∧ x < 18446744073709551616 := fun x hx => b3 x (List.mem_of_mem_take hx)
  obtain ⟨a, ha⟩ : ∃ a, a = l1.take 300 := ⟨_, rfl⟩
  obtain ⟨b, hb⟩ : ∃ b, b = l2.take 300 := ⟨_, rfl⟩
  obtain ⟨L, hL⟩ : ∃ L, L = l3.take 40 := ⟨_, rfl⟩
  have la : a.length ≤ 300 := by rw [ha]; simp; omega
  have lb : b.length ≤ 300 := by rw [hb]; simp; omega
  have lL : L.length ≤ 40 := by rw [hL]; simp; omega
  rw [← ha] at hba
  rw [← hb] at hbb
  rw [← hL] at hbl
  have HBA := Lib.hid hba
  have HBB := Lib.hid hbb
  have HBL := Lib.hid hbl
  have HA := Lib.hid ha
  have HB := Lib.hid hb
  have HL := Lib.hid hL
  clear e1 e2 e3 a1 a2 a3 b1 b2 b3 hba hbb hbl ha hb hL
  go_enter Try.func4, Try.ntmps4
  go_wp2_with fail
  refine (wakes_true _).mono ?_
  rintro e w1 ⟨rfl, B1⟩
  go_wp2_with fail
  refine (few_any o1 n1 c1 l1 _ E1.out hc1 hm1 (A1.out.later B1)).mono ?_
  rintro e w2 ⟨vA, rfl, oA, q2⟩
  have B2 := B1.trans (q2.mono B1.size)
  go_wp2_with fail
  refine (few_any o2 n2 c2 l2 _ E2.out hc2 hm2 (A2.out.later B2)).mono ?_
  rintro e w3 ⟨vB, rfl, oB, q3⟩
  have B3 := B2.trans (q3.mono B2.size)
  rw [← HA.out] at oA
  rw [← HB.out] at oB
  have sA3 := oA.seg.later q3
  have sB3 := oB.seg
  obtain ⟨pA, cA, rfl, _, _, _⟩ := sA3.shape
  obtain ⟨pB, cB, rfl, _, _, _⟩ := sB3.shape
  obtain ⟨nA, hnA⟩ : ∃ n, n = a.length := ⟨_, rfl⟩
  obtain ⟨nB, hnB⟩ : ∃ n, n = b.length := ⟨_, rfl⟩
  rw [← hnA] at sA3 la ⊢
  rw [← hnB] at sB3 lb ⊢
  have NA := Lib.hid hnA
  have NB := Lib.hid hnB
  clear hnA hnB oA oB q2 q3 B1 B2
  have hcl : ∀ k : Nat, k = min n3 40 → Calls Try.prog 14 #[.slice o3 k c3] w3 fun e w' => ∃ v', e = .returned v' ∧ Owns .u64 26 w3.heap.size w' v' L ∧ Below w3.heap.size w3 w' := fun k hk =>
    cloneu_any o3 k c3 L w3 (by rw [HL.out]; have := E3.out; simp; omega) (by omega) (by rw [HL.out]; exact (A3.out.later B3).take 40)
  have HCL := Lib.hid hcl
  clear hcl
  by_cases h40 : n3 ≤ 40
  case' pos =>
    go_wp2_with fail
    refine (HCL.out n3 (by omega)).mono ?_
  case' neg =>
    go_wp2_with fail
    refine (HCL.out 40 (by omega)).mono ?_
  all_goals
    rintro e w4 ⟨vL, rfl, oL, q4⟩
    have sL4 := oL.seg
    have ys4 : YS w (.slice pA nA cA) (.slice pB nB cB) vL a b L w4 := ⟨B3.trans (q4.mono B3.size), sA3.later q4, sB3.later q4, sL4⟩
    obtain ⟨pL, cL, rfl, _, _, _⟩ := sL4.shape
    obtain ⟨nL, hnL⟩ : ∃ n, n = L.length := ⟨_, rfl⟩
    rw [← hnL] at ys4 lL ⊢
    have NL := Lib.hid hnL
    clear hnL oL q4 sL4 sA3 sB3 B3 HCL h40
    go_wp2_with fail
    refine (row_any _ L _ ys4.sL HBL.out (by have := NL.out; omega)).mono ?_
    rintro e w5 ⟨vR, rfl, oR, q5⟩
    have ys5 := ys4.later q5
    obtain ⟨R, hR⟩ : ∃ R, R = bytesRow L := ⟨_, rfl⟩
    rw [← hR] at oR
    have lR : R.length ≤ 500 := by
      rw [hR, bytesRow, List.length_append]
      have h1 := rowB_len L HBL.out
      have h2 := sept_ten (n := L.length) (by have := NL.out; omega)
      have := NL.out
      omega
    have bR : Byt R := by rw [hR]; exact byt_app (sept_byt _) (byt_row _)
    have HR := Lib.hid hR
    have HBR := Lib.hid bR
    obtain ⟨pR, cR, rfl⟩ := oR.shape
    obtain ⟨nR, hnR⟩ : ∃ n, n = R.length := ⟨_, rfl⟩
    rw [← hnR] at lR oR ⊢
    have NR := Lib.hid hnR
    clear hR bR ys4 q5 hnR
    go_wp2_with fail
    refine (concat3 _ _ _ _ a R b _ (Blk.new _ _ _) (ys5.sA.alloc _) (oR.seg.alloc _) (ys5.sB.alloc _) (by have := NA.out; omega) (by have := NR.out; omega) (by have := NB.out; omega)).mono ?_
    rintro e w6 ⟨vC, rfl, oC, q6⟩
    have ys6 := (ys5.alloc _).later q6
    have hrd := rdRow_at (bs := a ++ R ++ b) (p := a.length) (l := L) (rest := b) (by rw [mid_at, HR.out]) HBL.out (by have := NL.out; omega)
    rw [← HR.out, ← NA.out, ← NR.out] at hrd
    have hlC : (a ++ R ++ b).length = nA + nR + nB := by have := NA.out; have := NR.out; have := NB.out; simp; omega
    have hbC : Byt (a ++ R ++ b) := byt_app (byt_app HBA.out HBR.out) HBB.out
    obtain ⟨C, hC⟩ : ∃ C, C = a ++ R ++ b := ⟨_, rfl⟩
    rw [← hC] at hrd hlC hbC oC
    obtain ⟨pC, cC, rfl⟩ := oC.shape
    have sC := oC.seg
    rw [hlC] at sC ⊢
    have HRD := Lib.hid hrd
    have HLC := Lib.hid hlC
    have HBC := Lib.hid hbC
    clear hrd hlC hbC hC oC q6 ys5 oR
    go_wp2_with fail
    refine (readu_any nA _ C _ sC HBC.out (by have := HLC.out; omega) (by have := HLC.out; omega)).mono ?_
    intro e w7 h
    obtain ⟨vG, rfl, oG, q7⟩ := h.ok HRD.out
    have ys7 := ys6.later q7
    clear h sC ys6
    go_wp2_with fail
    refine (equalu_seg _ _ L L _ oG.seg ys7.sL).mono ?_
    rintro e w8 ⟨rfl, q8⟩
    have ys8 := ys7.later q8
    have t1 : ((nA : Int) + (nR : Int) != (nA : Int) + (nR : Int) + (nB : Int) - (nB : Int)) = false := by simp
    clear oG q7 q8 ys7 HRD HLC HBC
    go_wp2_with fail
    clear t1
    go_loopw [13, 14, 15, 16, 68] (fun _ _ _ _ i wr => ∃ k : Nat, k ≤ nL ∧ i = .int .i64 (k : Int) ∧ YS w (.slice pA nA cA) (.slice pB nB cB) (.slice pL nL cL) a b L wr) (fun _ _ _ _ i _ => nL - (intOf i).toNat)
    case atStart => exact ⟨0, by omega, rfl, ys8⟩
    case round =>
      obtain ⟨k, hk, rfl, ys⟩ := hrel
      clear ys8
      by_cases hlt : k < nL
      · have hkL : k < L.length := by have := NL.out; omega
        obtain ⟨pL', _, hpL, _, _, hcells⟩ := ys.sL.shape
        injection hpL with hpL hq1 hq2
        subst hpL
        clear hq1 hq2
        obtain ⟨gL, fL, rfl, _, hcells⟩ := hcells.resolve_left (fun e => by rw [e] at hkL; simp at hkL)
        have hcell := hcells k hkL
        have hx := HBL.out _ (List.getElem_mem hkL)
        obtain ⟨N, hN⟩ : ∃ N : Nat, N = L[k].toNat := ⟨_, rfl⟩
        have hNi : L[k] = (N : Int) := by omega
        have hN64 : N < 18446744073709551616 := by omega
        rw [hNi] at hcell
        obtain ⟨A, hA⟩ : ∃ A, A = sept N := ⟨_, rfl⟩
        have lA : A.length ≤ 10 := hA ▸ sept_ten hN64
        have bA : Byt A := hA ▸ sept_byt N
        have HSA := Lib.hid hA
        have HBSA := Lib.hid bA
        clear hcells hx hNi hN hA bA hkL
        go_wp2_with fail
        refine (number_any N hN64 _).mono ?_
        rintro e u1 ⟨v1, rfl, ox, x1⟩
        have ys1 := ys.later x1
        rw [← HSA.out] at ox
        obtain ⟨px, cx, rfl⟩ := ox.shape
        obtain ⟨nx, hnx⟩ : ∃ n, n = A.length := ⟨_, rfl⟩
        rw [← hnx] at lA ox ⊢
        have NX := Lib.hid hnx
        clear hnx x1 ys hcell
        go_wp2_with fail
        refine (concat3 _ _ _ _ a A b _ (Blk.new _ _ _) (ys1.sA.alloc _) (ox.seg.alloc _) (ys1.sB.alloc _) (by have := NA.out; omega) (by have := NX.out; omega) (by have := NB.out; omega)).mono ?_
        rintro e u2 ⟨vC, rfl, oC, x2⟩
        have ys2 := (ys1.alloc _).later x2
        have hrd := rdN_at (bs := a ++ A ++ b) (p := a.length) (n := N) (rest := b) (by rw [mid_at, HSA.out]) hN64
        rw [← HSA.out, ← NA.out, ← NX.out] at hrd
        have hlC : (a ++ A ++ b).length = nA + nx + nB := by have := NA.out; have := NX.out; have := NB.out; simp; omega
        have hbC : Byt (a ++ A ++ b) := byt_app (byt_app HBA.out HBSA.out) HBB.out
        obtain ⟨C, hC⟩ : ∃ C, C = a ++ A ++ b := ⟨_, rfl⟩
        rw [← hC] at hrd hlC hbC oC
        obtain ⟨pC, cC, rfl⟩ := oC.shape
        have sC := oC.seg
        rw [hlC] at sC ⊢
        have HRD := Lib.hid hrd
        have HLC := Lib.hid hlC
        have HBC := Lib.hid hbC
        clear hrd hlC hbC hC oC x2 ys1 ox
        go_wp2_with fail
        refine (readn_any nA _ C _ sC HBC.out (by have := HLC.out; omega) (by have := HLC.out; omega)).mono ?_
        intro e u3 h
        obtain ⟨vG, rfl, hvG, x3⟩ := h.ok HRD.out
        subst hvG
        have ys3 := ys2.later x3
        clear h sC ys2 HRD HLC HBC x3
        go_wp2_with fail
        refine (number_any N hN64 _).mono ?_
        rintro e u4 ⟨v4, rfl, ox, x4⟩
        have ys4 := ys3.later x4
        rw [← HSA.out] at ox
        obtain ⟨px', cx', rfl⟩ := ox.shape
        rw [← NX.out]
        clear ox x4 ys3
        go_wp2_with fail
        go_roundw
        case rel => exact ⟨k + 1, by omega, by go_num, ys4⟩
        case measure => simp [intOf]; omega
      · go_wp2_with fail
        refine (frame_any _ b _ ys.sB HBB.out (by have := NB.out; omega)).mono ?_
        rintro e f1 ⟨vF, rfl, oF, z1⟩
        have ys1 := ys.later z1
        obtain ⟨F, hF⟩ : ∃ F, F = bytesFrame b := ⟨_, rfl⟩
        rw [← hF] at oF
        have lF : F.length ≤ 400 := by
          rw [hF, bytesFrame, List.length_append, List.length_append, four, lowB_len]
          have h2 := sept_ten (n := b.length) (by have := NB.out; omega)
          have := NB.out
          omega
        have bF : Byt F := by rw [hF]; exact byt_app (sept_byt _) (byt_app HBB.out (lowB_byt _ _))
        have HF := Lib.hid hF
        have HBF := Lib.hid bF
        obtain ⟨pF, cF, rfl⟩ := oF.shape
        obtain ⟨nF, hnF⟩ : ∃ n, n = F.length := ⟨_, rfl⟩
        rw [← hnF] at lF oF ⊢
        have NF := Lib.hid hnF
        clear hF bF hnF z1 ys
        go_wp2_with fail
        refine (concat3 _ _ _ _ a F a _ (Blk.new _ _ _) (ys1.sA.alloc _) (oF.seg.alloc _) (ys1.sA.alloc _) (by have := NA.out; omega) (by have := NF.out; omega) (by have := NA.out; omega)).mono ?_
        rintro e f2 ⟨vC2, rfl, oC2, z2⟩
        have ys2 := (ys1.alloc _).later z2
        have hbd := sumB_bd b
        have hrd := rdFrame_at (bs := a ++ F ++ a) (p := a.length) (x := b) (rest := a) (s := sumB b) (by rw [mid_at, HF.out, bytesFrame, List.append_assoc, List.append_assoc]) (by have := NB.out; omega) hbd.1 hbd.2
        rw [if_pos rfl] at hrd
        have hlF : a.length + (sept b.length).length + b.length + 4 = nA + nF := by rw [NF.out, HF.out, bytesFrame, List.length_append, List.length_append, four, lowB_len, NA.out]; omega
        rw [hlF, ← NA.out] at hrd
        have hlC : (a ++ F ++ a).length = nA + nF + nA := by have := NA.out; have := NF.out; simp; omega
        have hbC : Byt (a ++ F ++ a) := byt_app (byt_app HBA.out HBF.out) HBA.out
        obtain ⟨C2, hC⟩ : ∃ C, C = a ++ F ++ a := ⟨_, rfl⟩
        rw [← hC] at hrd hlC hbC oC2
        obtain ⟨pC2, cC2, rfl⟩ := oC2.shape
        have sC := oC2.seg
        rw [hlC] at sC ⊢
        have HRD := Lib.hid hrd
        have HLC := Lib.hid hlC
        have HBC := Lib.hid hbC
        clear hrd hlC hbC hC oC2 z2 ys1 oF hbd hlF
        go_wp2_with fail
        refine (readb_any nA _ C2 _ sC HBC.out (by have := HLC.out; omega) (by have := HLC.out; omega)).mono ?_
        intro e f3 h
        obtain ⟨vH, rfl, oH, z3⟩ := h.ok HRD.out
        have ys3 := ys2.later z3
        clear h sC ys2 HRD HLC HBC z3
        go_wp2_with fail
        refine (equalb_same _ _ b _ oH.seg ys3.sB).mono ?_
        rintro e f4 ⟨rfl, z4⟩
        have ys4 := ys3.later z4
        have hcv := conv_seg ys4.sB
        clear oH z4 ys3
        go_wp2_with fail
        refine (text_any (ofB b) (by rw [ofB_size]; have := NB.out; omega) _).mono ?_
        rintro e f5 ⟨vT, rfl, oT, z5⟩
        have ys5 := ys4.later z5
        rw [strB_ofB HBB.out] at oT
        obtain ⟨T, hT⟩ : ∃ T, T = bytesText b := ⟨_, rfl⟩
        rw [← hT] at oT
        have lT : T.length ≤ 400 := by
          rw [hT, bytesText, List.length_append]
          have h2 := sept_ten (n := b.length) (by have := NB.out; omega)
          have := NB.out
          omega
        have bT : Byt T := by rw [hT]; exact byt_app (sept_byt _) HBB.out
        have HT := Lib.hid hT
        have HBT := Lib.hid bT
        obtain ⟨pT, cT, rfl⟩ := oT.shape
        obtain ⟨nT, hnT⟩ : ∃ n, n = T.length := ⟨_, rfl⟩
        rw [← hnT] at lT oT ⊢
        have NT := Lib.hid hnT
        clear hT bT hnT z5 ys4 hcv
        go_wp2_with fail
        refine (concat3 _ _ _ _ a T a _ (Blk.new _ _ _) (ys5.sA.alloc _) (oT.seg.alloc _) (ys5.sA.alloc _) (by have := NA.out; omega) (by have := NT.out; omega) (by have := NA.out; omega)).mono ?_
        rintro e f6 ⟨vC3, rfl, oC3, z6⟩
        have ys6 := (ys5.alloc _).later z6
        have hrd := rdCounted_at (limit := 4000) (bs := a ++ T ++ a) (p := a.length) (x := b) (rest := a) (by rw [mid_at, HT.out, bytesText, List.append_assoc]) (by have := NB.out; omega) (by have := NB.out; omega)
        have hlT : a.length + (sept b.length).length + b.length = nA + nT := by rw [NT.out, HT.out, bytesText, List.length_append, NA.out]; omega
        rw [hlT, ← NA.out] at hrd
        have hlC : (a ++ T ++ a).length = nA + nT + nA := by have := NA.out; have := NT.out; simp; omega
        have hbC : Byt (a ++ T ++ a) := byt_app (byt_app HBA.out HBT.out) HBA.out
        obtain ⟨C3, hC⟩ : ∃ C, C = a ++ T ++ a := ⟨_, rfl⟩
        rw [← hC] at hrd hlC hbC oC3
        obtain ⟨pC3, cC3, rfl⟩ := oC3.shape
        have sC := oC3.seg
        rw [hlC] at sC ⊢
        have HRD := Lib.hid hrd
        have HLC := Lib.hid hlC
        have HBC := Lib.hid hbC
        clear hrd hlC hbC hC oC3 z6 ys5 oT hlT
        go_wp2_with fail
        refine (reads_any nA _ C3 _ sC HBC.out (by have := HLC.out; omega) (by have := HLC.out; omega)).mono ?_
        intro e f7 h
        obtain ⟨vH, rfl, hvH, z7⟩ := h.ok HRD.out
        subst hvH
        have ys7 := ys6.later z7
        have hcv := conv_seg ys7.sB
        clear h sC ys6 HRD HLC HBC z7
        go_wp2_with fail
        go_ret
        exact ⟨rfl, ys7.bl⟩
end Go.Proofs.Ytdjcdhkdmgkdfaa
