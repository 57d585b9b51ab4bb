/- slices.Index and slices.Contains of numbers; the walk of GallopBoth. -/
import Derived.Test.YtbcloahekffjdaaH8
namespace Go.Proofs.Kit
/-- Rows that rise with the same numbers are the same. -/
theorem inc_ext : ∀ {a b : List Int}, Inc a → Inc b → (∀ x, x ∈ a ↔ x ∈ b) → a = b
  | [], [], _, _, _ => rfl
  | [], y :: b, _, _, h => by have := (h y).2 (by simp); simp at this
  | x :: a, [], _, _, h => by have := (h x).1 (by simp); simp at this
  | x :: a, y :: b, ha, hb, h => by
    have ha' := List.pairwise_cons.1 ha
    have hb' := List.pairwise_cons.1 hb
    have e : x = y := by
      have h1 := (h x).1 (by simp)
      have h2 := (h y).2 (by simp)
      rcases List.mem_cons.1 h1 with h1 | h1
      · exact h1
      · rcases List.mem_cons.1 h2 with h2 | h2
        · exact h2.symm
        · have := ha'.1 y h2
          have := hb'.1 x h1
          omega
    subst e
    congr 1
    refine inc_ext ha'.2 hb'.2 fun z => ?_
    constructor
    · intro hz
      rcases List.mem_cons.1 ((h z).1 (by simp [hz])) with e | e
      · have := ha'.1 z hz; omega
      · exact e
    · intro hz
      rcases List.mem_cons.1 ((h z).2 (by simp [hz])) with e | e
      · have := hb'.1 z hz; omega
      · exact e
end Go.Proofs.Kit
namespace Go.Proofs.Ytbcloahekffjdaa
open Go.RowKit Go.Proofs.Kit

theorem mtI_comm (a b : List Int) : mtI a b = mtI b a := by
  unfold mtI
  by_cases h : Inc a ∧ Inc b
  · rw [if_pos h, if_pos h.symm]
    exact inc_ext (mt_inc h.1) (mt_inc h.2) fun x => by rw [mt_mem, mt_mem]; exact And.comm
  · rw [if_neg h, if_neg fun k => h k.symm]
theorem mtI_inc (a b : List Int) : Inc (mtI a b) := by
  unfold mtI
  split
  · rename_i h; exact mt_inc h.1
  · exact inc_nil
theorem mtI_self {a : List Int} (h : Inc a) : mtI a a = a := by
  unfold mtI
  rw [if_pos ⟨h, h⟩]
  exact inc_ext (mt_inc h) h fun x => by rw [mt_mem]; simp

set_option maxHeartbeats 1000000 in
theorem indexu_any (v : Value) (l : List Int) (w : World) (hs : Seg .u64 w v l) (key : Int) :
    Calls Try.prog 40 #[v, .int .u64 key] w fun e w' => ∃ r : Int, e = .returned (.int .i64 r) ∧ decide (0 ≤ r) = decide (key ∈ l) ∧ w = w' := by
  obtain ⟨o, c, rfl, hc, hm, a⟩ := hs.shape
  have h63 := hs.1
  obtain ⟨n, hn⟩ : ∃ n, n = l.length := ⟨_, rfl⟩
  rw [← hn] at h63 ⊢
  have HN := Lib.hid hn
  have HA := Lib.hid a
  clear hn a hs hc
  go_enter Try.func40, Try.ntmps40
  go_wp2
  go_loop [8] (fun i => ∃ k : Nat, k ≤ n ∧ i = .int .i64 (k : Int) ∧ Hid (∀ j (h : j < l.length), j < k → l[j] ≠ key)) (fun i => n - (intOf i).toNat)
  case atStart => exact ⟨0, Nat.zero_le _, rfl, Lib.hid fun j _ h2 => by omega⟩
  case round =>
    obtain ⟨k, hk, rfl, hp⟩ := hrel
    by_cases hlt : k < n
    · have hk1 : k < l.length := by have := HN.out; omega
      obtain ⟨b, g, rfl, hbl, hcells⟩ := HA.out.resolve_left (fun e => by rw [e] at hk1; simp at hk1)
      have d2 := hcells k hk1
      obtain ⟨y, hy'⟩ : ∃ y, y = l[k] := ⟨_, rfl⟩
      rw [← hy'] at d2
      have HY := Lib.hid hy'
      clear hy' hcells
      by_cases he : key = y
      · have ht : (key == y) = true := by simpa using he
        have HE := Lib.hid he
        clear he
        go_wp2
        go_ret
        have : key ∈ l := by rw [HE.out, HY.out]; exact List.getElem_mem hk1
        exact ⟨(k : Int), rfl, by simp [this], rfl⟩
      · have ht : (key == y) = false := by simpa using he
        have HE := Lib.hid he
        clear he
        go_wp2
        go_round
        case rel =>
          refine ⟨k + 1, by omega, by go_num, Lib.hid fun j hj h2 => ?_⟩
          by_cases e : j = k
          · subst e; rw [← HY.out]; exact fun h => HE.out h.symm
          · exact hp.out j hj (by omega)
        case measure => simp [intOf]; omega
    · go_wp2
      go_ret
      have : ¬ key ∈ l := by
        intro h
        obtain ⟨j, hj, e⟩ := List.getElem_of_mem h
        exact hp.out j hj (by have := HN.out; omega) e
      exact ⟨-1, rfl, by simp [this], rfl⟩
set_option maxHeartbeats 1000000 in
theorem containsu_any (v : Value) (l : List Int) (w : World) (hs : Seg .u64 w v l) (key : Int) :
    Calls Try.prog 30 #[v, .int .u64 key] w fun e w' => e = .returned (.bool (decide (key ∈ l))) ∧ w = w' := by
  have HS := Lib.hid hs
  obtain ⟨o, c, rfl, _, _, _⟩ := hs.shape
  clear hs
  go_enter Try.func30, Try.ntmps30
  go_wp2_with fail
  refine (indexu_any _ l _ HS.out key).mono ?_
  rintro e w' ⟨r, rfl, hr, rfl⟩
  have HR := Lib.hid hr
  clear hr
  go_wp2
  go_ret
  rw [← HR.out]
  exact ⟨rfl, rfl⟩

set_option maxRecDepth 100000 in
set_option maxHeartbeats 8000000 in
theorem both_true (o o' : Option Addr) (n c n' c' : Nat) (l l' : List Int) (w : World) (hl : l.length = n) (hc : n ≤ c) (hm : c ≤ 9223372036854775807) (h : ArgI .u64 w o c l)
    (hl' : l'.length = n') (hc' : n' ≤ c') (hm' : c' ≤ 9223372036854775807) (h' : ArgI .u64 w o' c' l') :
    Calls Try.prog 8 #[.slice o n c, .slice o' n' c'] w fun e w' => e = .returned (.bool true) ∧ Below w.heap.size w w' := by
  have HL := Lib.hid hl
  have HA := Lib.hid h
  have HL' := Lib.hid hl'
  have HA' := Lib.hid h'
  obtain ⟨A, hA⟩ : ∃ L, L = l.take 200 := ⟨_, rfl⟩
  obtain ⟨B, hB⟩ : ∃ L, L = l'.take 200 := ⟨_, rfl⟩
  have hnA : A.length ≤ 200 := by rw [hA]; simp; omega
  have hnB : B.length ≤ 200 := by rw [hB]; simp; omega
  have HLA := Lib.hid hA
  have HLB := Lib.hid hB
  clear hl h hl' h' hA hB
  go_enter Try.func8, Try.ntmps8
  go_wp2_with fail
  refine (wakes4_true _).mono ?_
  rintro e w1 ⟨rfl, B1⟩
  go_wp2_with fail
  refine (few4_any o n c l w1 HL.out hc hm (HA.out.later B1)).mono ?_
  rw [← HLA.out]
  rintro e w2 ⟨v, rfl, ho, b2⟩
  have B2 := below_later B1 b2
  have oa := ho.mono B1.size
  clear ho b2 B1
  go_wp2_with fail
  refine (few4_any o' n' c' l' w2 HL'.out hc' hm' (HA'.out.later B2)).mono ?_
  rw [← HLB.out]
  rintro e w3 ⟨v', rfl, ho, b3⟩
  have B3 := below_later B2 b3
  have oA := oa.later b3
  have oB := ho.mono B2.size
  clear ho b3 B2 oa
  go_wp2_with fail
  refine (gMeet_any v v' A B w3 oA.seg oB.seg (by omega) (by omega)).mono ?_
  rintro e w4 ⟨u, q, rfl, ho, -, b4⟩
  have B4 := below_later B3 b4
  have oA4 := oA.later b4
  have oB4 := oB.later b4
  have oU4 := ho.mono B3.size
  clear ho b4 B3 oA oB
  go_wp2_with fail
  refine (gMeet_any v' v B A w4 oB4.seg oA4.seg (by omega) (by omega)).mono ?_
  rw [mtI_comm B A]
  rintro e w5 ⟨u', q', rfl, ho, -, b5⟩
  have B5 := below_later B4 b5
  have oA5 := oA4.later b5
  have oB5 := oB4.later b5
  have oU5 := oU4.later b5
  have oV5 := ho.mono B4.size
  clear ho b5 B4 oA4 oB4 oU4
  obtain ⟨M, hM⟩ : ∃ M, M = mtI A B := ⟨_, rfl⟩
  have hMi := mtI_inc A B
  have hMl := mtI_len A B
  rw [← hM] at oU5 oV5 hMi hMl
  have HM := Lib.hid hM
  clear hM
  go_wp2_with fail
  refine (equalu_seg u u' M M w5 oU5.seg oV5.seg).mono ?_
  rw [decide_eq_true rfl]
  rintro e w6 ⟨rfl, d6⟩
  have B6 := B5.trans (d6.below (B := w.heap.size))
  have oA6 := oA5.later d6.below
  have oB6 := oB5.later d6.below
  have oU6 := oU5.later d6.below
  clear d6 B5 oA5 oB5 oU5 oV5
  go_wp2_with fail
  refine (rising_any u M w6 oU6.seg).mono ?_
  rw [decide_eq_true hMi]
  rintro e w7 ⟨rfl, d7⟩
  have B7 := B6.trans (d7.below (B := w.heap.size))
  have oA7 := oA6.later d7.below
  have oB7 := oB6.later d7.below
  have oU7 := oU6.later d7.below
  clear d7 B6 oA6 oB6 oU6 hMi
  have HA7 := Lib.hid oA7
  have HB7 := Lib.hid oB7
  have HU7 := Lib.hid oU7
  have HBL := Lib.hid B7
  clear oA7 oB7 oU7 B7
  obtain ⟨oa, ca, rfl⟩ := HA7.out.shape
  obtain ⟨ob, cb, rfl⟩ := HB7.out.shape
  obtain ⟨ou, cu, rfl⟩ := HU7.out.shape
  by_cases iA : Inc A
  · have HIA := Lib.hid iA
    by_cases iB : Inc B
    · have HIB := Lib.hid iB
      have hmem : ∀ x, x ∈ M ↔ x ∈ A ∧ x ∈ B := fun x => by rw [HM.out]; unfold mtI; rw [if_pos ⟨iA, iB⟩]; exact mt_mem
      have HMEM := Lib.hid hmem
      clear iA iB hmem
      go_wp2_with fail
      refine (rising_any _ A w7 HA7.out.seg).mono ?_
      rw [decide_eq_true HIA.out]
      rintro e w8 ⟨rfl, d8⟩
      go_wp2_with fail
      refine (rising_any _ B w8 (HB7.out.later d8.below).seg).mono ?_
      rw [decide_eq_true HIB.out]
      rintro e w9 ⟨rfl, d9⟩
      have d89 := d8.trans d9
      have HA9 := Lib.hid (HA7.out.later d89.below)
      have HB9 := Lib.hid (HB7.out.later d89.below)
      have HU9 := Lib.hid (HU7.out.later d89.below)
      have HBL9 := Lib.hid (HBL.out.trans (d89.below (B := w.heap.size)))
      clear d8 d9 d89 HA7 HB7 HU7 HBL
      obtain ⟨NA, hNA⟩ : ∃ N, N = A.length := ⟨_, rfl⟩
      obtain ⟨NB, hNB⟩ : ∃ N, N = B.length := ⟨_, rfl⟩
      obtain ⟨NM, hNM⟩ : ∃ N, N = M.length := ⟨_, rfl⟩
      rw [← hNA] at hnA
      rw [← hNB] at hnB
      rw [← hNA, ← hNM] at hMl
      rw [← hNA] at HA9 ⊢
      rw [← hNB] at HB9 ⊢
      rw [← hNM] at HU9 ⊢
      have KA := Lib.hid hNA
      have KB := Lib.hid hNB
      have KM := Lib.hid hNM
      clear hNA hNB hNM
      go_wp2
      go_loopg [57] NA (fun kx s wr => ∃ i : Nat, s = .int .i64 (i : Int) ∧ i ≤ NA ∧ NA - i ≤ kx ∧ Hid (Below w.heap.size w wr) ∧ Hid (Owns .u64 27 w.heap.size wr (.slice oa NA ca) A) ∧ Hid (Owns .u64 27 w.heap.size wr (.slice ob NB cb) B) ∧ Hid (Owns .u64 27 w.heap.size wr (.slice ou NM cu) M))
      case atStart => exact ⟨0, rfl, Nat.zero_le _, by omega, HBL9, HA9, HB9, HU9⟩
      case round =>
        clear HBL9 HA9 HB9 HU9
        obtain ⟨i, rfl, hi, hkx, HBL, HA, HB, HU⟩ := hrel
        by_cases hlt : i < NA
        · have hiA : i < A.length := by have := KA.out; omega
          obtain ⟨b, g, cp, hv, _, _, hbl, hcells⟩ := HA.out.seg.2.resolve_left (fun e => by rw [e.2] at hiA; simp at hiA)
          injection hv with hv1 hv2 hv3
          subst hv1
          have d1 := hcells i hiA
          have hxA : A[i] ∈ A := List.getElem_mem hiA
          obtain ⟨x, hx⟩ : ∃ x, x = A[i] := ⟨_, rfl⟩
          rw [← hx] at d1 hxA
          have hcon : decide (x ∈ M) = hasI B x := by
            unfold hasI
            rw [decide_eq_decide, HMEM.out]
            exact ⟨fun h => ⟨HIB.out, h.2⟩, fun h => ⟨hxA, h.2⟩⟩
          have HCON := Lib.hid hcon
          clear hx hcells hv2 hv3 hxA hcon
          go_wp2_with fail
          refine (containsu_any _ M wr HU.out.seg x).mono ?_
          rw [HCON.out]
          obtain ⟨t, ht⟩ : ∃ t, t = hasI B x := ⟨_, rfl⟩
          rw [← ht]
          have HT := Lib.hid ht
          clear ht
          rintro e w10 ⟨rfl, rfl⟩
          go_wp2_with fail
          refine (ghas_any _ B wr HB.out.seg (by have := KB.out; omega) x).mono ?_
          rw [← HT.out]
          rintro e w11 ⟨rfl, b11⟩
          have HBL1 := Lib.hid (below_later HBL.out b11)
          have HA1 := Lib.hid (HA.out.later b11)
          have HB1 := Lib.hid (HB.out.later b11)
          have HU1 := Lib.hid (HU.out.later b11)
          have ett : (t != t) = false := by simp
          clear b11 HBL HA HB HU
          go_wp2
          go_roundg (NA - (i + 1))
          case measure => omega
          case rel => exact ⟨i + 1, by go_num, by omega, Nat.le_refl _, HBL1, HA1, HB1, HU1⟩
        · go_wp2
          go_loopg [71] NM (fun kx s wr => ∃ i : Nat, s = .int .i64 (i : Int) ∧ i ≤ NM ∧ NM - i ≤ kx ∧ Hid (Below w.heap.size w wr) ∧ Hid (Owns .u64 27 w.heap.size wr (.slice oa NA ca) A) ∧ Hid (Owns .u64 27 w.heap.size wr (.slice ob NB cb) B) ∧ Hid (Owns .u64 27 w.heap.size wr (.slice ou NM cu) M))
          case atStart => exact ⟨0, rfl, Nat.zero_le _, by omega, HBL, HA, HB, HU⟩
          case round =>
            clear HBL HA HB HU
            obtain ⟨j, rfl, hj, hky, HBL, HA, HB, HU⟩ := hrel
            by_cases hlt2 : j < NM
            · have hjM : j < M.length := by have := KM.out; omega
              obtain ⟨b, g, cp, hv, _, _, hbl, hcells⟩ := HU.out.seg.2.resolve_left (fun e => by rw [e.2] at hjM; simp at hjM)
              injection hv with hv1 hv2 hv3
              subst hv1
              have d1 := hcells j hjM
              have hxM : M[j] ∈ M := List.getElem_mem hjM
              obtain ⟨x, hx⟩ : ∃ x, x = M[j] := ⟨_, rfl⟩
              rw [← hx] at d1 hxM
              have hab := (HMEM.out x).1 hxM
              have h1 : hasI A x = true := decide_eq_true ⟨HIA.out, hab.1⟩
              have h2 : hasI B x = true := decide_eq_true ⟨HIB.out, hab.2⟩
              have H1 := Lib.hid h1
              have H2 := Lib.hid h2
              clear hx hcells hv2 hv3 hxM hab h1 h2
              go_wp2_with fail
              refine (ghas_any _ A wr HA.out.seg (by have := KA.out; omega) x).mono ?_
              rw [H1.out]
              rintro e w11 ⟨rfl, b11⟩
              have HBL1 := Lib.hid (below_later HBL.out b11)
              have HA1 := Lib.hid (HA.out.later b11)
              have HB1 := Lib.hid (HB.out.later b11)
              have HU1 := Lib.hid (HU.out.later b11)
              clear b11 HBL HA HB HU
              go_wp2_with fail
              refine (ghas_any _ B w11 HB1.out.seg (by have := KB.out; omega) x).mono ?_
              rw [H2.out]
              rintro e w12 ⟨rfl, b12⟩
              have HBL2 := Lib.hid (below_later HBL1.out b12)
              have HA2 := Lib.hid (HA1.out.later b12)
              have HB2 := Lib.hid (HB1.out.later b12)
              have HU2 := Lib.hid (HU1.out.later b12)
              clear b12 HBL1 HA1 HB1 HU1
              go_wp2
              go_roundg (NM - (j + 1))
              case measure => omega
              case rel => exact ⟨j + 1, by go_num, by omega, Nat.le_refl _, HBL2, HA2, HB2, HU2⟩
            · go_wp2_with fail
              refine (gMeet_any _ _ A A wr HA.out.seg HA.out.seg (by have := KA.out; omega) (by have := KA.out; omega)).mono ?_
              rw [mtI_self HIA.out]
              rintro e w11 ⟨u, q, rfl, ho, -, b11⟩
              go_wp2_with fail
              refine (equalu_seg u _ A A w11 ho.seg (HA.out.later b11).seg).mono ?_
              rw [decide_eq_true rfl]
              rintro e w12 ⟨rfl, d12⟩
              go_wp2
              go_ret
              exact ⟨rfl, (below_later HBL.out b11).trans d12.below⟩
    · have hM0 : M.length = 0 := by rw [HM.out]; unfold mtI; rw [if_neg fun h => iB h.2]; rfl
      go_wp2_with fail
      refine (rising_any _ A w7 HA7.out.seg).mono ?_
      rw [decide_eq_true HIA.out]
      rintro e w8 ⟨rfl, d8⟩
      go_wp2_with fail
      refine (rising_any _ B w8 (HB7.out.later d8.below).seg).mono ?_
      rw [decide_eq_false iB]
      rintro e w9 ⟨rfl, d9⟩
      have e0 : ((M.length : Int) == 0) = true := by simp; exact List.length_eq_zero_iff.1 hM0
      clear hM0
      go_wp2
      go_ret
      exact ⟨rfl, HBL.out.trans ((d8.trans d9).below)⟩
  · have hM0 : M.length = 0 := by rw [HM.out]; unfold mtI; rw [if_neg fun h => iA h.1]; rfl
    go_wp2_with fail
    refine (rising_any _ A w7 HA7.out.seg).mono ?_
    rw [decide_eq_false iA]
    rintro e w8 ⟨rfl, d8⟩
    have e0 : ((M.length : Int) == 0) = true := by simp; exact List.length_eq_zero_iff.1 hM0
    clear hM0
    go_wp2
    go_ret
    exact ⟨rfl, HBL.out.trans d8.below⟩
end Go.Proofs.Ytbcloahekffjdaa
