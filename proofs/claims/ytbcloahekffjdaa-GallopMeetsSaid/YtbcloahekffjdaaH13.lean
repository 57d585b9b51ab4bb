/- The reference's Meet; the walk of GallopMeets. -/
import Derived.Test.YtbcloahekffjdaaH8
import Derived.Test.YtbcloahekffjdaaSegB
import Derived.Deep.CutBlock
namespace Go.Proofs.Ytbcloahekffjdaa
open Go.RowKit Go.Proofs.Kit

theorem wrap_wrap {P : Nat} (h : P ≤ 1000000) : wrap64 (8 + wrap64 (P : Int)) = ((8 + P : Nat) : Int) := by
  have h1 : wrap64 (P : Int) = (P : Int) := by unfold wrap64; omega
  rw [h1]
  unfold wrap64
  omega
theorem mt_step {a b : List Int} {i : Nat} (hi : i < a.length) : mt (a.take (i + 1)) b = mt (a.take i) b ++ (if a[i] ∈ b then [a[i]] else []) := by
  by_cases h : a[i] ∈ b
  · rw [if_pos h, mt_snoc hi h]
  · rw [if_neg h, List.append_nil]
    refine filter_more (Nat.le_succ _) fun k hk h1 h2 => ?_
    obtain rfl : k = i := by omega
    exact h
set_option maxRecDepth 100000 in
set_option maxHeartbeats 2000000 in
theorem eMeet_any (va vb : Value) (A B : List Int) (w : World) (ha : Seg .u64 w va A) (hb : Seg .u64 w vb B) (la : A.length ≤ 100000) :
    Calls Try.prog 21 #[va, vb] w fun e w' => ∃ v : Value, e = .returned v ∧ Owns .u64 27 w.heap.size w' v (mt A B) ∧ Below w.heap.size w w' := by
  obtain ⟨i0, hi, hz0, hz1, hz2⟩ := infou
  have HSA := Lib.hid ha
  have HSB := Lib.hid hb
  obtain ⟨oa, ca, rfl, _, _, ha'⟩ := ha.shape
  obtain ⟨ob, cb, rfl, _, _, _⟩ := hb.shape
  have HCA := Lib.hid ha'
  obtain ⟨n, hn⟩ : ∃ n, n = A.length := ⟨_, rfl⟩
  rw [← hn] at la HSA ⊢
  have HN := Lib.hid hn
  clear ha hb ha' hn
  go_enter Try.func21, Try.ntmps21
  go_wp2
  go_loopg [5, 7, 10] n (fun kx s5 _ s10 wr => ∃ k : Nat, s10 = .int .i64 (k : Int) ∧ k ≤ n ∧ n - k ≤ kx ∧ Hid (Owns .u64 27 w.heap.size wr s5 (mt (A.take k) B)) ∧ Hid (Below w.heap.size w wr))
  case atStart => exact ⟨0, rfl, Nat.zero_le _, by omega, Lib.hid (by simpa [Kit.mt] using Owns.nil .u64 27 w.heap.size w), Lib.hid (Below.refl _ _)⟩
  case round =>
    obtain ⟨k, rfl, hk, hkx, HO, HB⟩ := hrel
    by_cases hlt : k < n
    · have hkl : k < A.length := by have := HN.out; omega
      obtain ⟨b, f, rfl, hbl, hcells⟩ := HCA.out.resolve_left (fun e => by rw [e] at hkl; simp at hkl)
      have d1 := (HB.out.cell (p := ⟨b, f + k, none⟩) hbl).trans (hcells k hkl)
      have hst := mt_step (b := B) hkl
      have hlen := mt_len (A.take k) B
      rw [List.length_take] at hlen
      obtain ⟨x, hx⟩ : ∃ x, x = A[k] := ⟨_, rfl⟩
      rw [← hx] at d1 hst
      obtain ⟨M, hM⟩ : ∃ M, M = mt (A.take k) B := ⟨_, rfl⟩
      rw [← hM] at HO hst hlen
      have HST := Lib.hid hst
      clear hx hcells hM hst
      obtain ⟨o5, c5, rfl⟩ := HO.out.shape
      go_wp2_with fail
      refine (eHas_any _ B wr (HSB.out.later HB.out) x).mono ?_
      obtain ⟨t, ht⟩ : ∃ t, t = decide (x ∈ B) := ⟨_, rfl⟩
      rw [← ht]
      have HT := Lib.hid ht
      clear ht
      rintro e w2 ⟨rfl, rfl⟩
      cases t
      · go_wp2
        go_roundg (n - (k + 1))
        case measure => omega
        case rel =>
          refine ⟨k + 1, by go_num, by omega, Nat.le_refl _, Lib.hid ?_, HB⟩
          have hno : ¬ x ∈ B := by simpa using HT.out.symm
          rw [HST.out, if_neg hno, List.append_nil]
          exact HO.out
      · have HO2 := Lib.hid (HO.out.alloc (.cells #[.int .u64 x] 27))
        have HSG := Lib.hid (Seg.one (k := .u64) (w := wr) (t := 27) x)
        have hlb : M.length ≤ 100000 := by omega
        clear hlen d1
        go_wp2_with (at_builtin; refine wpList_append_seg rfl _ _ 22 rfl .u64 w.heap.size 27 i0 (.int .u64 0) 8 Try.underlying22 hi hz0 hz1 hz2 rfl _ _ rfl HO2.out _ [x] rfl HSG.out ?qa ?qb ?qc ?_)
        case qa => simp only [List.length_cons, List.length_nil]; omega
        case qb => simp only [List.length_cons, List.length_nil]; omega
        case qc => have := HB.out.size; simp; omega
        intro v3 w3 hO3 hb3
        have O3 := Lib.hid hO3
        have B3 := Lib.hid hb3
        clear hO3 hb3
        go_wp2
        go_roundg (n - (k + 1))
        case measure => omega
        case rel =>
          refine ⟨k + 1, by go_num, by omega, Nat.le_refl _, Lib.hid ?_, Lib.hid ((HB.out.alloc HB.out.size _).trans B3.out)⟩
          have hyes : x ∈ B := by simpa using HT.out.symm
          rw [HST.out, if_pos hyes]
          exact O3.out
    · go_wp2
      go_ret
      refine ⟨_, rfl, ?_, HB.out⟩
      have h := HO.out
      rw [List.take_of_length_le (by have := HN.out; omega)] at h
      exact h

set_option maxRecDepth 100000 in
set_option maxHeartbeats 8000000 in
theorem meets_true (o o' ok : Option Addr) (n c n' c' nk ck : Nat) (l l' lk : List Int) (w : World) (hl : l.length = n) (hc : n ≤ c) (hm : c ≤ 9223372036854775807) (h : ArgI .u64 w o c l)
    (hl' : l'.length = n') (hc' : n' ≤ c') (hm' : c' ≤ 9223372036854775807) (h' : ArgI .u64 w o' c' l') (hlk : lk.length = nk) (hnk : nk ≤ 9223372036854775807) (hk : ArgI .u64 w ok ck lk) :
    Calls Try.prog 4 #[.slice o n c, .slice o' n' c', .slice ok nk ck] w fun e w' => e = .returned (.bool true) ∧ Below w.heap.size w w' := by
  have HL := Lib.hid hl
  have HA := Lib.hid h
  have HL' := Lib.hid hl'
  have HA' := Lib.hid h'
  have HLK := Lib.hid hlk
  have HK := Lib.hid hk
  obtain ⟨A, hA⟩ : ∃ L, L = l.take 200 := ⟨_, rfl⟩
  obtain ⟨B, hB⟩ : ∃ L, L = l'.take 200 := ⟨_, rfl⟩
  have hnA : A.length ≤ 200 := by rw [hA]; simp; omega
  have hnB : B.length ≤ 200 := by rw [hB]; simp; omega
  have HLA := Lib.hid hA
  have HLB := Lib.hid hB
  clear hl h hl' h' hA hB hlk hk
  go_enter Try.func4, Try.ntmps4
  go_wp2_with fail
  refine (wakes4_true _).mono ?_
  rintro e w1 ⟨rfl, B1⟩
  go_wp2_with fail
  refine (few4_any o n c l w1 HL.out hc hm (HA.out.later B1)).mono ?_
  rw [← HLA.out]
  rintro e w2 ⟨v, rfl, ho, b2⟩
  have B2 := below_later B1 b2
  have oa := ho.mono B1.size
  clear ho b2 B1
  go_wp2_with fail
  refine (few4_any o' n' c' l' w2 HL'.out hc' hm' (HA'.out.later B2)).mono ?_
  rw [← HLB.out]
  rintro e w3 ⟨v', rfl, ho, b3⟩
  have HB3 := Lib.hid (below_later B2 b3)
  have HOA := Lib.hid (oa.later b3)
  have HOB := Lib.hid (ho.mono B2.size)
  clear ho b3 B2 oa
  obtain ⟨t, ht⟩ : ∃ t, t = decide (Inc A) := ⟨_, rfl⟩
  have HT := Lib.hid ht
  clear ht
  go_wp2_with fail
  refine (eRising_any v A w3 HOA.out.seg).mono ?_
  rw [← HT.out]
  rintro e w4 ⟨rfl, rfl⟩
  obtain ⟨bo, hbo⟩ : ∃ bo, bo = decide (Inc A ∧ Inc B) := ⟨_, rfl⟩
  have HBO := Lib.hid hbo
  clear hbo
  go_upto_region 5 with (fail)
  go_cut [10] (fun s10 wc => s10 = .bool bo ∧ wc = w3)
  case first =>
    cases t
    · have e0 : bo = false := by
        rw [HBO.out]; exact decide_eq_false fun h => by have := HT.out; simp [h.1] at this
      go_wp2
      go_meet
      exact ⟨by rw [e0], rfl⟩
    · have e0 : decide (Inc B) = bo := by
        have := of_decide_eq_true HT.out.symm
        rw [HBO.out]; simp [this]
      have HE0 := Lib.hid e0
      clear e0
      go_wp2_with fail
      refine (eRising_any v' B w3 HOB.out.seg).mono ?_
      rw [HE0.out]
      rintro e w4 ⟨rfl, rfl⟩
      go_wp2
      go_meet
      exact ⟨rfl, rfl⟩
  case rest =>
    obtain ⟨rfl, rfl⟩ := hcut
    obtain ⟨wa, rfl⟩ : ∃ x : World, x = wc := ⟨_, rfl⟩
    go_wp2_with fail
    refine (gMeet_any v v' A B wa HOA.out.seg HOB.out.seg (by omega) (by omega)).mono ?_
    rintro e w4 ⟨u, q, rfl, ho, hq, b4⟩
    have HU4 := Lib.hid ho
    have HQ := Lib.hid hq
    have HB4 := Lib.hid b4
    clear ho hq b4
    obtain ⟨oa, ca, rfl⟩ := HOA.out.shape
    obtain ⟨ob, cb, rfl⟩ := HOB.out.shape
    obtain ⟨NA, hNA⟩ : ∃ N, N = A.length := ⟨_, rfl⟩
    obtain ⟨NB, hNB⟩ : ∃ N, N = B.length := ⟨_, rfl⟩
    rw [← hNA] at hnA HOA ⊢
    rw [← hNB] at hnB HOB ⊢
    have KA := Lib.hid hNA
    have KB := Lib.hid hNB
    clear hNA hNB
    obtain ⟨Mo, hMo⟩ : ∃ M, M = lkM A B := ⟨_, rfl⟩
    have HMo := Lib.hid hMo
    clear hMo
    go_upto_if 42 with (fail)
    go_cut [13, 14] (fun s13 s14 wx => s14 = .int .i64 (Mo : Int) ∧ Hid (Seg .u64 wx s13 (mtI A B)) ∧ Hid (Below w4.heap.size w4 wx))
    case first =>
      cases bo
      · have hno : ¬ (Inc A ∧ Inc B) := of_decide_eq_false HBO.out.symm
        have HNO := Lib.hid hno
        clear hno
        go_wp2
        go_meet
        have e1 : Mo = 0 := by rw [HMo.out]; exact if_neg HNO.out
        have e2 : mtI A B = [] := if_neg HNO.out
        rw [e1, e2]
        exact ⟨rfl, Lib.hid (Seg.nil _ _), Lib.hid (Below.refl _ _)⟩
      · have hyes : Inc A ∧ Inc B := of_decide_eq_true HBO.out.symm
        have HYES := Lib.hid hyes
        clear hyes
        go_wp2_with fail
        refine (eMeet_any _ _ A B w4 (HOA.out.later HB4.out).seg (HOB.out.later HB4.out).seg (by have := KA.out; omega)).mono ?_
        rintro e w5 ⟨vw, rfl, hw, b5⟩
        have HW := Lib.hid hw
        have HB5 := Lib.hid b5
        clear hw b5
        obtain ⟨r, hr⟩ : ∃ r, r = Nat.log2 (1 + max NA NB) := ⟨_, rfl⟩
        have hr63 := log2_lt63 (m := 1 + max NA NB) (by omega)
        rw [← hr] at hr63
        have HRL := Lib.hid (show Nat.log2 (1 + max (NA : Int) (NB : Int)).toNat = r by rw [hr]; congr 1; omega)
        have HR := Lib.hid hr
        clear hr
        go_wp2_with fail
        refine (eLog_any (1 + max (NA : Int) (NB : Int)) (by omega) (by omega) _).mono ?_
        rw [HRL.out]
        rintro e w6 ⟨rfl, rfl⟩
        go_wp2
        go_meet
        have e2 : mtI A B = Kit.mt A B := if_pos HYES.out
        rw [e2]
        refine ⟨?_, Lib.hid HW.out.seg, HB5⟩
        have e3 : Mo = 8 + 8 * min NA NB * (1 + r) := by rw [HMo.out, HR.out, KA.out, KB.out]; exact if_pos HYES.out
        obtain ⟨m, hm⟩ : ∃ m, m = min NA NB := ⟨_, rfl⟩
        have e4 : min (NA : Int) (NB : Int) = (m : Int) := by omega
        have e5 : 8 * m * (1 + r) ≤ 8 * 200 * 63 := Nat.mul_le_mul (by omega) (by omega)
        have e6 : 8 * (m : Int) * (1 + (r : Int)) = ((8 * m * (1 + r) : Nat) : Int) := by simp
        rw [e4, e6, e3, ← hm]
        congr 1
        obtain ⟨P, hP⟩ : ∃ P, P = 8 * m * (1 + r) := ⟨_, rfl⟩
        rw [← hP] at e5 ⊢
        exact wrap_wrap (by omega)
    case rest =>
      obtain ⟨rfl, HSW, HB5⟩ := hcut
      have hqM : q ≤ Mo := by rw [HMo.out]; exact HQ.out
      have hU5 := HU4.out.later HB5.out
      have hB45 : Below wa.heap.size wa wc := below_later HB4.out HB5.out
      have HU5 := Lib.hid hU5
      have HB45 := Lib.hid hB45
      have HQM := Lib.hid hqM
      clear HQ hU5 hB45 hqM HU4 HB4
      go_wp2_with fail
      refine (equalu_seg u _ (mtI A B) (mtI A B) wc HU5.out.seg HSW.out).mono ?_
      rw [decide_eq_true rfl]
      rintro e w6 ⟨rfl, d6⟩
      have HU6 := Lib.hid (HU5.out.later d6.below)
      have HB6 := Lib.hid (HB45.out.trans (d6.below (B := wa.heap.size)))
      clear d6 HU5 HB45 HSW
      obtain ⟨M, hM⟩ : ∃ M, M = mtI A B := ⟨_, rfl⟩
      rw [← hM] at HU6
      have HM := Lib.hid hM
      clear hM
      have g1 : decide (Mo < q) = false := by have := HQM.out; simp; omega
      obtain ⟨ou, cu, rfl⟩ := HU6.out.shape
      obtain ⟨NM, hNM⟩ : ∃ N, N = M.length := ⟨_, rfl⟩
      rw [← hNM] at HU6 ⊢
      have KM := Lib.hid hNM
      have hNMl : NM ≤ 200 := by have := mtI_len A B; rw [hNM, HM.out]; have := KA.out; omega
      clear hNM
      go_upto_block 0 with fail
      go_cut [77] (fun _ wx => Hid (Below wa.heap.size wa wx) ∧ Hid (Owns .u64 27 wa.heap.size wx (.slice ou NM cu) M))
      case first =>
        go_wp2
        go_loopg [77] nk (fun kx s wr => ∃ i : Nat, s = .int .i64 (i : Int) ∧ i ≤ nk ∧ i ≤ 8 ∧ nk - i ≤ kx ∧ Hid (Below wa.heap.size wa wr) ∧ Hid (Owns .u64 27 wa.heap.size wr (.slice ou NM cu) M))
        case atStart => exact ⟨0, rfl, Nat.zero_le _, by omega, by omega, HB6, HU6⟩
        case round =>
          clear HB6 HU6
          obtain ⟨i, rfl, hi, hi8, hkx, HB, HU⟩ := hrel
          by_cases hlt : i < nk
          · have hik : i < lk.length := by have := HLK.out; omega
            obtain ⟨ak, rfl, hck⟩ := HK.out.resolve_left (fun e => by rw [e.2.1] at hik; simp at hik)
            have d0 := hck i hik
            have HBW := Lib.hid (HB3.out.trans (HB.out.mono HB3.out.size))
            have d2 : wr.cell? (ak.add i) = some (.int .u64 lk[i]) := (HBW.out.cell (World.block_lt_of_cell? _ _ d0)).trans d0
            obtain ⟨y, hy⟩ : ∃ y, y = lk[i] := ⟨_, rfl⟩
            rw [← hy] at d2
            clear hy d0 hck
            by_cases h8 : i = 8
            · have g8 : ((i : Int) == 8) = true := by simp; omega
              clear h8
              go_wp2
              go_meet
              exact ⟨HB, HU⟩
            · have g8 : ((i : Int) == 8) = false := by simp; omega
              have hi7 : i ≤ 7 := by omega
              clear h8 hi8
              go_upto_region 19 with (fail)
              generalize IntKind.u64.wrap (y + (i : Int) * 7) = high
              have SA := Lib.hid (HOA.out.later HB.out).seg
              have hNA2 : A.length ≤ 1000000 := by have := KA.out; omega
              by_cases hIA : Inc A
              · obtain rfl : t = true := by rw [HT.out]; simpa using hIA
                have HIA := Lib.hid hIA
                have hhas : hasI A y = decide (y ∈ A) := by unfold hasI; rw [decide_eq_decide]; exact ⟨fun h => h.2, fun h => ⟨hIA, h⟩⟩
                have HHAS := Lib.hid hhas
                clear hIA hhas
                by_cases hyh : y ≤ high
                · have g3 : decide (y ≤ high) = true := by simpa using hyh
                  go_wp2_with fail
                  refine (span_ok _ A wr SA.out hNA2 HIA.out y high hyh).mono ?_
                  obtain ⟨a, ha⟩ : ∃ a, a = sk (ge y) A 0 := ⟨_, rfl⟩
                  obtain ⟨b, hb⟩ : ∃ b, b = sk (gt high) A 0 := ⟨_, rfl⟩
                  rw [← ha, ← hb]
                  have HAa := Lib.hid ha
                  have HBb := Lib.hid hb
                  clear ha hb
                  rintro e w7 ⟨rfl, b7⟩
                  have HB1 := Lib.hid (below_later HB.out b7)
                  have HU1 := Lib.hid (HU.out.later b7)
                  have SA1 := Lib.hid (SA.out.later b7)
                  clear b7 HB HU SA
                  have ga : ((a : Int) != (a : Int)) = false := by simp
                  have gb : ((b : Int) != (b : Int)) = false := by simp
                  go_wp2_with fail
                  refine (eSeek_any _ A w7 SA1.out 0 (Nat.zero_le _) y).mono ?_
                  rw [← HAa.out]
                  rintro e w8 ⟨rfl, rfl⟩
                  go_wp2_with fail
                  refine (eBehind_any _ A w7 SA1.out 0 (Nat.zero_le _) high).mono ?_
                  rw [← HBb.out]
                  rintro e w8 ⟨rfl, rfl⟩
                  go_wp2_with fail
                  refine (ghas_any _ A w7 SA1.out hNA2 y).mono ?_
                  rw [HHAS.out]
                  obtain ⟨bt, hbt⟩ : ∃ bt, bt = decide (y ∈ A) := ⟨_, rfl⟩
                  rw [← hbt]
                  have HBT := Lib.hid hbt
                  clear hbt
                  rintro e w8 ⟨rfl, b8⟩
                  have HB2 := Lib.hid (below_later HB1.out b8)
                  have HU2 := Lib.hid (HU1.out.later b8)
                  have SA2 := Lib.hid (SA1.out.later b8)
                  clear b8 HB1 HU1 SA1
                  have gbt : (bt != bt) = false := by simp
                  go_wp2_with fail
                  refine (eHas_any _ A w8 SA2.out y).mono ?_
                  rw [← HBT.out]
                  rintro e w9 ⟨rfl, rfl⟩
                  go_wp2
                  go_roundg (nk - (i + 1))
                  case measure => omega
                  case rel => exact ⟨i + 1, by go_num, by omega, by omega, Nat.le_refl _, HB2, HU2⟩
                · have g3 : decide (y ≤ high) = false := by simpa using hyh
                  go_wp2_with fail
                  refine (span_no _ A wr SA.out y high (fun h => by have := h.1; omega)).mono ?_
                  rintro e w7 ⟨rfl, d7⟩
                  have HB1 := Lib.hid (HB.out.trans (d7.below (B := wa.heap.size)))
                  have HU1 := Lib.hid (HU.out.later d7.below)
                  have SA1 := Lib.hid (SA.out.later d7.below)
                  clear d7 HB HU SA
                  go_wp2_with fail
                  refine (ghas_any _ A w7 SA1.out hNA2 y).mono ?_
                  rw [HHAS.out]
                  obtain ⟨bt, hbt⟩ : ∃ bt, bt = decide (y ∈ A) := ⟨_, rfl⟩
                  rw [← hbt]
                  have HBT := Lib.hid hbt
                  clear hbt
                  rintro e w8 ⟨rfl, b8⟩
                  have HB2 := Lib.hid (below_later HB1.out b8)
                  have HU2 := Lib.hid (HU1.out.later b8)
                  have SA2 := Lib.hid (SA1.out.later b8)
                  clear b8 HB1 HU1 SA1
                  have gbt : (bt != bt) = false := by simp
                  go_wp2_with fail
                  refine (eHas_any _ A w8 SA2.out y).mono ?_
                  rw [← HBT.out]
                  rintro e w9 ⟨rfl, rfl⟩
                  go_wp2
                  go_roundg (nk - (i + 1))
                  case measure => omega
                  case rel => exact ⟨i + 1, by go_num, by omega, by omega, Nat.le_refl _, HB2, HU2⟩
              · obtain rfl : t = false := by rw [HT.out]; simpa using hIA
                have hhas : hasI A y = false := by unfold hasI; exact decide_eq_false fun h => hIA h.1
                have HHAS := Lib.hid hhas
                clear hhas
                go_wp2_with fail
                refine (span_no _ A wr SA.out y high (fun h => hIA h.2)).mono ?_
                rintro e w7 ⟨rfl, d7⟩
                have HB1 := Lib.hid (HB.out.trans (d7.below (B := wa.heap.size)))
                have HU1 := Lib.hid (HU.out.later d7.below)
                have SA1 := Lib.hid (SA.out.later d7.below)
                clear d7 HB HU SA hIA
                go_wp2_with fail
                refine (ghas_any _ A w7 SA1.out hNA2 y).mono ?_
                rw [HHAS.out]
                rintro e w8 ⟨rfl, b8⟩
                have HB2 := Lib.hid (below_later HB1.out b8)
                have HU2 := Lib.hid (HU1.out.later b8)
                clear b8 HB1 HU1
                go_wp2
                go_roundg (nk - (i + 1))
                case measure => omega
                case rel => exact ⟨i + 1, by go_num, by omega, by omega, Nat.le_refl _, HB2, HU2⟩
          · go_wp2
            go_meet
            exact ⟨HB, HU⟩
      case rest =>
        clear HB6 HU6
        obtain ⟨HB6, HU6⟩ := hcut
        go_wp2
        go_loopg [131] NM (fun kx s wr => ∃ (i : Nat) (X : List Int), s = .int .i64 (i : Int) ∧ i ≤ NM ∧ NM - i ≤ kx ∧ Hid (X.length = NM) ∧ Hid (Below wa.heap.size wa wr) ∧ Hid (Owns .u64 27 wa.heap.size wr (.slice ou NM cu) X))
        case atStart => exact ⟨0, M, rfl, Nat.zero_le _, by omega, Lib.hid KM.out.symm, HB6, HU6⟩
        case round =>
          clear HB6 HU6
          obtain ⟨i, X, rfl, hi, hkx, HX, HB, HU⟩ := hrel
          by_cases hlt : i < NM
          · have hiX : i < X.length := by have := HX.out; omega
            obtain ⟨g, cap, hv, -, -, hg0, hgl, hcell, hfr, hset⟩ := HU.out.set hiX (IntKind.u64.wrap (X[i] + 1))
            obtain ⟨x, hx⟩ : ∃ x, x = X[i] := ⟨_, rfl⟩
            rw [← hx] at hcell hset
            injection hv with hv1 hv2 hv3
            subst hv1
            have HSET := Lib.hid hset
            clear hx hset hv2 hv3
            go_wp2
            go_roundg (NM - (i + 1))
            case measure => omega
            case rel => exact ⟨i + 1, X.set i (IntKind.u64.wrap (x + 1)), by go_num, by omega, Nat.le_refl _, Lib.hid (by rw [List.length_set]; exact HX.out), Lib.hid (HB.out.setCell hg0 _), HSET⟩
          · have HBW := Lib.hid (HB3.out.trans (HB.out.mono HB3.out.size))
            go_wp2_with fail
            refine (few4_any o n c l wr HL.out hc hm (HA.out.later HBW.out)).mono ?_
            rw [← HLA.out]
            rintro e w7 ⟨v1, rfl, ho, b7⟩
            have B7 := below_later HB.out b7
            go_wp2_with fail
            refine (equalu_seg _ v1 A A w7 (HOA.out.later B7).seg ho.seg).mono ?_
            rw [decide_eq_true rfl]
            rintro e w8 ⟨rfl, d8⟩
            have HB8 := Lib.hid (B7.trans (d8.below (B := wa.heap.size)))
            have HBW8 := Lib.hid (HB3.out.trans (HB8.out.mono HB3.out.size))
            clear ho b7 B7 d8
            go_wp2_with fail
            refine (few4_any o' n' c' l' w8 HL'.out hc' hm' (HA'.out.later HBW8.out)).mono ?_
            rw [← HLB.out]
            rintro e w9 ⟨v2, rfl, ho, b9⟩
            have B9 := below_later HB8.out b9
            go_wp2_with fail
            refine (equalu_seg _ v2 B B w9 (HOB.out.later B9).seg ho.seg).mono ?_
            rw [decide_eq_true rfl]
            rintro e w10 ⟨rfl, d10⟩
            go_wp2
            go_ret
            exact ⟨rfl, HB3.out.trans ((B9.trans (d10.below (B := wa.heap.size))).mono HB3.out.size)⟩
end Go.Proofs.Ytbcloahekffjdaa
