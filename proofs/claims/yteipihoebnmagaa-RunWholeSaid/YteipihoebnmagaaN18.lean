/- RunWhole: the law's walk. -/
import Derived.Test.YteipihoebnmagaaN17
namespace Go.Proofs.Yteipihoebnmagaa
open Go.RowKit Go.Proofs.Kit
theorem ddI_lt : ∀ (l : List Int), l.Pairwise (· ≤ ·) → (dd l).Pairwise (· < ·)
  | [], _ => by simp [dd]
  | [x], _ => by simp [dd]
  | x :: y :: t, h => by
    have h1 := (List.pairwise_cons.1 h).1
    have h2 := (List.pairwise_cons.1 h).2
    have ih := ddI_lt (y :: t) h2
    rw [dd]
    by_cases e : x = y
    · rw [if_pos e]; exact ih
    · rw [if_neg e]
      have hxy : x < y := by have := h1 y (by simp); omega
      refine List.pairwise_cons.2 ⟨fun z hz => ?_, ih⟩
      rcases List.mem_cons.1 ((dd_mem _ _).1 hz) with rfl | hz
      · exact hxy
      · have := (List.pairwise_cons.1 h2).1 z hz; omega
def with1 (a : Int) (l : List Int) : List Pr := l.map fun b => (a, b)
theorem with1_len (a : Int) (l : List Int) : (with1 a l).length = l.length := by simp [with1]
def whole (l : List Pr) (F : List Int) : List Pr := F.flatMap fun a => with1 a (secondsP l a)
theorem sec_len (l : List Pr) (a : Int) : (secondsP l a).length ≤ l.length := by
  unfold secondsP
  split
  · rw [List.length_map]; exact List.length_filter_le _ _
  · simp
theorem firsts_len (l : List Pr) : (firstsP l).length ≤ l.length := by
  unfold firstsP
  split
  · have := dd_len (l.map (·.1)); simpa using this
  · simp
theorem whole_len (l : List Pr) : ∀ F : List Int, (whole l F).length ≤ F.length * l.length
  | [] => by simp [whole]
  | a :: t => by
    have h1 := whole_len l t
    have h2 := sec_len l a
    unfold whole at *
    rw [List.flatMap_cons, List.length_append, with1_len, List.length_cons, Nat.add_mul]
    omega
theorem whole_take {l : List Pr} {F : List Int} {i : Nat} (hi : i < F.length) : whole l (F.take (i + 1)) = whole l (F.take i) ++ with1 F[i] (secondsP l F[i]) := by
  unfold whole
  rw [List.take_succ_eq_append_getElem hi, List.flatMap_append]
  simp
theorem with1_take {a : Int} {S : List Int} {j : Nat} (hj : j < S.length) : with1 a (S.take (j + 1)) = with1 a (S.take j) ++ [(a, S[j])] := by
  unfold with1
  rw [List.take_succ_eq_append_getElem hj, List.map_append]
  rfl
theorem whole_all {l : List Pr} (h : okP l) : whole l (firstsP l) = l := by
  have hf : firstsP l = dd (l.map (·.1)) := if_pos h
  have hs : ∀ a, with1 a (secondsP l a) = l.filter fun x => decide (x.1 = a) := fun a => by
    rw [secondsP, if_pos h, with1, List.map_map]
    have : ∀ m : List Pr, (∀ x ∈ m, x.1 = a) → m.map ((fun b => (a, b)) ∘ fun x => x.2) = m := by
      intro m
      induction m with
      | nil => intro _; rfl
      | cons x t ih =>
        intro hm
        rw [List.map_cons, ih fun y hy => hm y (by simp [hy])]
        have := hm x (by simp)
        show (a, x.2) :: t = x :: t
        rw [← this]
    exact this _ fun x hx => by simpa using (List.mem_filter.1 hx).2
  have hle : (l.map (·.1)).Pairwise (· ≤ ·) := List.pairwise_map.2 (h.1.imp fun {a b} hab => by unfold lt2 at hab; omega)
  refine run_ext ?_ h.1 fun p => ?_
  · unfold whole Run
    rw [List.pairwise_flatMap, hf]
    refine ⟨fun a _ => by rw [hs]; exact h.1.sub List.filter_sublist, (ddI_lt _ hle).imp fun {a b} hab x hx y hy => ?_⟩
    rw [hs] at hx hy
    have e1 : x.1 = a := by simpa using (List.mem_filter.1 hx).2
    have e2 : y.1 = b := by simpa using (List.mem_filter.1 hy).2
    unfold lt2
    omega
  · unfold whole
    rw [List.mem_flatMap]
    constructor
    · rintro ⟨a, _, hp⟩
      rw [hs] at hp
      exact (List.mem_filter.1 hp).1
    · intro hp
      refine ⟨p.1, by rw [hf, dd_mem]; exact List.mem_map_of_mem hp, ?_⟩
      rw [hs]
      exact List.mem_filter.2 ⟨hp, by simp⟩
theorem Owns.grownP {k : IntKind} {t t' : TypeId} {B B' : Nat} {w w' : World} {v va : Value} {l : List Int} {m : List Pr} (h : Owns k t B w v l) (ha : OwnP t' B' w va m) (ht : t ≠ t') (hg : w.grownBy w' va.ownBlock) : Owns k t B w' v l := by
  refine h.same fun g hgv => hg.block g (h.lt g hgv).2 fun e => ?_
  rcases h.2 with ⟨rfl, _⟩ | ⟨g', cap, cur, rfl, _, hb, _⟩
  · simp [Value.ownBlock] at hgv
  · simp [Value.ownBlock] at hgv
    subst hgv
    rcases ha.2.2 with ⟨rfl, _⟩ | ⟨g2, cap2, cur2, rfl, _, hb2, _⟩
    · simp [Value.ownBlock] at e
    · simp [Value.ownBlock] at e
      subst e
      rw [hb] at hb2
      injection hb2 with h1
      injection h1 with _ h2 _
      exact ht h2
theorem Owns.has {k : IntKind} {t : TypeId} {B : Nat} {w : World} {o : Option Addr} {n c i : Nat} {l : List Int} (h : Owns k t B w (.slice o n c) l) (hi : i < l.length) : ∃ b, o = some ⟨b, 0, none⟩ ∧ b < w.heap.size ∧ w.cell? ⟨b, i, none⟩ = some (.int k l[i]) ∧ l.length = n ∧ n ≤ c := by
  rcases h.2 with ⟨_, h2⟩ | ⟨g, cap, cur, h1, hg, hb, hc, hm, _, h4⟩
  · omega
  · injection h1 with e1 e2 e3
    subst e1 e3
    have hb' : Blk w g cur t := hb
    have : (cur.toList.take l.length)[i]? = some (.int k l[i]) := by
      rw [Nat.mul_one] at h4; rw [h4]; simp [hi]
    rw [List.getElem?_take_of_lt hi] at this
    refine ⟨g, rfl, hb'.lt, ?_, e2.symm, by omega⟩
    rw [hb'.cell]
    simpa using this
set_option maxRecDepth 100000 in
set_option maxHeartbeats 8000000 in
theorem whole_true (ox : Option Addr) (nx cx : Nat) (X : List Pr) (w : World) (f1 f2 t1 t2 : Int)
    (hlx : X.length = nx) (hcx : nx ≤ cx) (hmx : cx ≤ 9223372036854775807) (hx : ArgP w ox cx X) (hnn : Nn X) :
    Calls Try.prog 8 #[.slice ox nx cx, PV f1 f2, PV t1 t2] w fun e w' => e = .returned (.bool true) ∧ Below w.heap.size w w' := by
  have hmix := mixed
  obtain ⟨i0, hi, hz0, hz1, hz2⟩ := infoP
  have HLX := Lib.hid hlx
  have HX := Lib.hid hx
  obtain ⟨L, hL⟩ : ∃ L, L = X.take 40 := ⟨_, rfl⟩
  have hL40 : L.length ≤ 40 := by rw [hL]; simp; omega
  have HNN := Lib.hid (show Nn L by rw [hL]; exact fun x hx => hnn x (List.mem_of_mem_take hx))
  have HL := Lib.hid hL
  clear hL hlx hx hnn
  go_enter Try.func8, Try.ntmps8
  go_wp2_with fail
  refine (wakes_true _).mono ?_
  rintro e w1 ⟨rfl, B1⟩
  have hw0 : Below w.heap.size w w1 ∧ Blk w1 w.heap.size #[.int .u64 f1, .int .u64 f2] 30 ∧ Blk w1 (w.heap.size + 1) #[.int .u64 t1, .int .u64 t2] 30 := by
    refine ⟨((Below.refl _ _).alloc (Nat.le_refl _) _ |>.alloc (by simp) _).trans (B1.mono (by simp; omega)), ((Blk.new _ _ _).alloc _).later B1, ?_⟩
    have := (Blk.new (w.alloc (.cells #[.int .u64 f1, .int .u64 f2] 30)) #[.int .u64 t1, .int .u64 t2] 30).later B1
    simpa using this
  obtain ⟨B1', bF, bT⟩ := hw0
  clear B1
  go_wp2_with fail
  refine (fewP_any ox nx cx X _ HLX.out hcx hmx (HX.out.later B1')).mono ?_
  rw [← HL.out]
  rintro e w2 ⟨v, rfl, o2, b2⟩
  have B2 := below_later B1' b2
  have BF := Lib.hid (bF.later b2)
  have BT := Lib.hid (bT.later b2)
  have O2 := Lib.hid o2.seg
  obtain ⟨p2, c2, rfl⟩ := o2.shape
  clear o2 b2 B1' bF bT HX HLX
  go_wp2_with fail
  refine (firsts_any _ L _ O2.out).mono ?_
  rintro e w3 ⟨vF, rfl, oF, b3⟩
  have hflen := firsts_len L
  obtain ⟨F, hF⟩ : ∃ F, F = firstsP L := ⟨_, rfl⟩
  rw [← hF] at oF hflen
  have HF := Lib.hid hF
  obtain ⟨pF, cF, rfl⟩ := oF.shape
  obtain ⟨nF, hnF⟩ : ∃ n, n = F.length := ⟨_, rfl⟩
  rw [← hnF] at hflen oF ⊢
  have HNF := Lib.hid hnF
  have OF := Lib.hid oF
  obtain ⟨nL, hnL⟩ : ∃ n, n = L.length := ⟨_, rfl⟩
  rw [← hnL] at hflen hL40 O2 ⊢
  have HNL := Lib.hid hnL
  clear hF oF hnF hnL
  have hnF40 : nF ≤ 40 := by omega
  go_wp2
  go_loopw [8, 23] (fun s i wr => ∃ k : Nat, k ≤ nF ∧ i = .int .i64 (k : Int) ∧ Hid (OwnP 30 w2.heap.size wr s (whole L (F.take k))) ∧ Hid (Owns .u64 28 w2.heap.size wr (.slice pF nF cF) F) ∧ Below w2.heap.size w2 wr) (fun _ i _ => nF - (intOf i).toNat)
  case atStart => exact ⟨0, by omega, rfl, Lib.hid (by simpa [whole] using OwnP.nil _ _ _), OF, b3⟩
  case round =>
    obtain ⟨k, hk, rfl, HO, HOF, hB⟩ := hrel
    by_cases hlt : k < nF
    · have hkF : k < F.length := by have := HNF.out; omega
      obtain ⟨bf, rfl, hbf, dF, _, hcF⟩ := Owns.has HOF.out hkF
      have hwt := whole_take (l := L) hkF
      obtain ⟨a, ha⟩ : ∃ a, a = F[k] := ⟨_, rfl⟩
      rw [← ha] at dF hwt
      have HWT := Lib.hid hwt
      have hwl := whole_len L (F.take k)
      have hwl2 : (whole L (F.take k)).length ≤ 1600 := by
        have h1 : (F.take k).length ≤ 40 := by rw [List.length_take]; omega
        have h2 := Nat.mul_le_mul h1 (show L.length ≤ 40 by have := HNL.out; omega)
        omega
      obtain ⟨Wk, hWk⟩ : ∃ W, W = whole L (F.take k) := ⟨_, rfl⟩
      rw [← hWk] at hwl2 HO HWT
      clear ha hwt hwl hWk
      go_wp2_with fail
      refine (seconds_any _ L _ (O2.out.later hB) HNN.out a).mono ?_
      rintro e w5 ⟨vS, rfl, oS, b5⟩
      have hslen := sec_len L a
      obtain ⟨S, hS⟩ : ∃ S, S = secondsP L a := ⟨_, rfl⟩
      rw [← hS] at oS hslen HWT
      obtain ⟨pS, cS, rfl⟩ := oS.shape
      obtain ⟨nS, hnS⟩ : ∃ n, n = S.length := ⟨_, rfl⟩
      rw [← hnS] at oS hslen ⊢
      have HNS := Lib.hid hnS
      have hnS40 : nS ≤ 40 := by have := HNL.out; omega
      have HO5 := Lib.hid (HO.out.later b5)
      have HOF5 := Lib.hid (HOF.out.later b5)
      have HOS := Lib.hid (oS.mono hB.size)
      have hB5 : Below w2.heap.size w2 w5 := hB.trans (b5.mono hB.size)
      clear hS hnS oS hslen b5 dF HO HOF
      go_wp2
      go_loopw [8, 31] (fun s i wr => ∃ q : Nat, q ≤ nS ∧ i = .int .i64 (q : Int) ∧ Hid (OwnP 30 w2.heap.size wr s (Wk ++ with1 a (S.take q))) ∧ Hid (Owns .u64 28 w2.heap.size wr (.slice (some ⟨bf, 0, none⟩) nF cF) F) ∧ Hid (Owns .u64 28 w2.heap.size wr (.slice pS nS cS) S) ∧ Below w2.heap.size w2 wr) (fun _ i _ => nS - (intOf i).toNat)
      case atStart => exact ⟨0, by omega, rfl, Lib.hid (by simpa [with1] using HO5.out), HOF5, HOS, hB5⟩
      case round =>
        obtain ⟨q, hq, rfl, HO, HOF, HOS, hB⟩ := hrel
        by_cases hlt2 : q < nS
        · have hqS : q < S.length := by have := HNS.out; omega
          obtain ⟨bs, rfl, hbs, dS, _, hcS⟩ := Owns.has HOS.out hqS
          have hwt := with1_take (a := a) hqS
          obtain ⟨b, hb⟩ : ∃ b, b = S[q] := ⟨_, rfl⟩
          rw [← hb] at dS hwt
          have HW1 := Lib.hid hwt
          have hm1 : (Wk ++ with1 a (S.take q)).length ≤ 1700 := by rw [List.length_append, with1_len, List.length_take]; omega
          obtain ⟨M, hM⟩ : ∃ M, M = Wk ++ with1 a (S.take q) := ⟨_, rfl⟩
          rw [← hM] at hm1 HO
          have HM := Lib.hid hM
          have HO2 := Lib.hid (HO.out.alloc (.cells #[.int .u64 a, .int .u64 b] 30))
          have HSG := Lib.hid (SegP.one (w := wr) (t := 30) a b)
          have HOFa := Lib.hid (HOF.out.alloc (.cells #[.int .u64 a, .int .u64 b] 30))
          have HOSa := Lib.hid (HOS.out.alloc (.cells #[.int .u64 a, .int .u64 b] 30))
          clear hb hwt hM
          go_wp2_with (at_builtin; refine wpList_append_segP rfl _ _ 22 rfl w2.heap.size 30 i0 (.agg #[.int .u64 0, .int .u64 0]) Try.underlying22 hi hz0 hz1 hz2 rfl _ _ rfl HO2.out _ [(a, b)] rfl HSG.out ?qa ?qb ?_)
          case qa => simp only [List.length_cons, List.length_nil]; omega
          case qb => have := hB.size; simp; omega
          intro v6 w6 hO6 hb6 hg6 _
          have HOF6 := Lib.hid (Owns.grownP HOFa.out HO2.out (by decide) hg6)
          have HOS6 := Lib.hid (Owns.grownP HOSa.out HO2.out (by decide) hg6)
          have hB6 : Below w2.heap.size w2 w6 := (hB.alloc hB.size _).trans hb6
          have HO6 := Lib.hid hO6
          clear hg6 hO6 hb6 dS
          go_wp2
          go_roundw
          case rel =>
            refine ⟨q + 1, by omega, by go_num, Lib.hid ?_, HOF6, HOS6, hB6⟩
            rw [HW1.out, ← List.append_assoc, ← HM.out]
            exact HO6.out
          case measure => simp [intOf]; omega
        · have hqn : S.take q = S := List.take_of_length_le (by have := HNS.out; omega)
          have HQN := Lib.hid hqn
          clear hqn
          go_wp2
          go_roundw
          case rel =>
            refine ⟨k + 1, by omega, by go_num, Lib.hid ?_, HOF, hB⟩
            rw [HWT.out]
            have h := HO.out
            rw [HQN.out] at h
            exact h
          case measure => simp [intOf]; omega
    · have hkn : F.take k = F := List.take_of_length_le (by have := HNF.out; omega)
      have hO := HO.out
      rw [hkn] at hO
      have HO := Lib.hid hO
      obtain ⟨pO, cO, hvO⟩ := hO.shape
      clear hkn hO
      by_cases hck : okP L
      · have HC0 := Lib.hid (ckP_yes hck)
        have HW := Lib.hid (show whole L F = L by rw [HF.out]; exact whole_all hck)
        have HOK := Lib.hid hck
        clear hck hvO
        go_wp2_with fail
        refine (check_any _ L _ (O2.out.later hB)).mono ?_
        rw [HC0.out]
        rintro e w7 ⟨rfl, g7⟩
        have B7 := below_later hB g7.below
        have HO7 := Lib.hid (HO.out.later g7.below)
        have bF7 := BF.out.below B7 BF.out.lt
        have bT7 := BT.out.below B7 BT.out.lt
        have c0 := bF7.cell 0
        have c1 := bF7.cell 1
        have c2' := bT7.cell 0
        have c3 := bT7.cell 1
        simp only [List.getElem?_toArray, List.getElem?_cons_zero, List.getElem?_cons_succ] at c0 c1 c2' c3
        clear g7 hB bF7 bT7
        go_wp2_with fail
        refine (between_any _ L _ (O2.out.later B7) f1 f2 t1 t2).mono ?_
        rintro e w8 ⟨vP, rfl, oP, b8⟩
        have B8 := below_later B7 b8
        have HO8 := Lib.hid (HO7.out.later b8)
        have hmem : lt2 (f1, f2) (t1, t2) → ∀ p, p ∈ betw L (f1, f2) (t1, t2) ↔ p ∈ L ∧ ¬ lt2 p (f1, f2) ∧ lt2 p (t1, t2) := fun h p => betw_mem HOK.out h p
        have hmem0 : ¬ lt2 (f1, f2) (t1, t2) → betw L (f1, f2) (t1, t2) = [] := fun h => betw_no fun q => h q.2
        obtain ⟨P, hP⟩ : ∃ P, P = betw L (f1, f2) (t1, t2) := ⟨_, rfl⟩
        rw [← hP] at oP hmem hmem0
        have HPM : Hid (∀ p ∈ L, decide (p ∈ P) = (decide (0 ≤ cf2 p (f1, f2)) && decide (cf2 p (t1, t2) < 0))) := Lib.hid fun p hp => by
          rw [Bool.eq_iff_iff]
          simp only [decide_eq_true_eq, Bool.and_eq_true]
          have e1 := cf2_neg p (f1, f2)
          have e2 := cf2_neg p (t1, t2)
          by_cases hft : lt2 (f1, f2) (t1, t2)
          · rw [hmem hft]
            constructor
            · rintro ⟨_, h1, h2⟩
              exact ⟨by
                by_cases c : 0 ≤ cf2 p (f1, f2)
                · exact c
                · exact (h1 (e1.1 (by omega))).elim, e2.2 h2⟩
            · rintro ⟨h1, h2⟩
              exact ⟨hp, fun q => by have := e1.2 q; omega, e2.1 h2⟩
          · rw [hmem0 hft]
            simp only [List.not_mem_nil, false_iff]
            rintro ⟨h1, h2⟩
            rcases not_lt2 hft with k | k
            · rw [k] at h1
              have := e2.2; omega
            · have h3 := e2.1 h2
              have h4 := e1.2 (lt2_trans h3 k)
              omega
        have OP := Lib.hid oP.seg
        obtain ⟨pP, cP, rfl⟩ := oP.shape
        obtain ⟨nP, hnP⟩ : ∃ n, n = P.length := ⟨_, rfl⟩
        rw [← hnP] at OP ⊢
        clear hP oP b8 hmem hmem0 hnP c0 c1 c2' c3 HO7 B7
        go_wp2
        go_loopw [55] (fun i wr => ∃ k : Nat, k ≤ nL ∧ i = .int .i64 (k : Int) ∧ Gr w8 wr) (fun i _ => nL - (intOf i).toNat)
        case atStart => exact ⟨0, by omega, rfl, Gr.refl _⟩
        case round =>
          obtain ⟨m, hm, rfl, hG⟩ := hrel
          have B9 := below_later B8 hG.below
          by_cases hlt3 : m < nL
          · have hmL : m < L.length := by have := HNL.out; omega
            obtain ⟨bl, fl, rfl, hbl, hcells⟩ := (O2.out.later B9).has hmL
            obtain ⟨d1, d2⟩ := hcells m hmL
            have hpm := HPM.out _ (List.getElem_mem hmL)
            obtain ⟨x, hx⟩ : ∃ x, x = L[m] := ⟨_, rfl⟩
            rw [← hx] at d1 d2 hpm
            clear hx hcells
            obtain ⟨x1, x2⟩ := x
            simp only at d1 d2
            obtain ⟨u, hu⟩ : ∃ u, cf2 (x1, x2) (f1, f2) = u := ⟨_, rfl⟩
            obtain ⟨z, hz⟩ : ∃ z, cf2 (x1, x2) (t1, t2) = z := ⟨_, rfl⟩
            rw [hu, hz] at hpm
            have HU := Lib.hid hu
            have HZ := Lib.hid hz
            have HPX := Lib.hid hpm
            have bF9 := BF.out.below B9 BF.out.lt
            have bT9 := BT.out.below B9 BT.out.lt
            have HWP := Lib.hid (fun W' (g : Gr wr W') => OP.out.later (hG.trans g).below)
            clear hu hz hpm
            go_wp2
            obtain ⟨wb, hwb⟩ : ∃ wb, wb = wr.alloc (.cells #[.int .u64 x1, .int .u64 x2] 30) := ⟨_, rfl⟩
            have bx : Blk wb wr.heap.size #[.int .u64 x1, .int .u64 x2] 30 := by rw [hwb]; exact Blk.new _ _ _
            have gb : Gr wr wb := by rw [hwb]; exact Gr.alloc _ _
            have bF10 := bF9.later gb.below
            have bT10 := bT9.later gb.below
            rw [← hwb]
            clear hwb d1 d2 bF9 bT9
            have e1 : ∀ n os, (Sort.grow (wb.drewN n) os).cell? ⟨wr.heap.size, 0, none⟩ = some (.int .u64 x1) := fun n os => cell_grown (a := ⟨wr.heap.size, 0, none⟩) bx.lt (bx.cell 0) n os
            have e2 : ∀ n os, (Sort.grow (wb.drewN n) os).cell? ⟨wr.heap.size, 1, none⟩ = some (.int .u64 x2) := fun n os => cell_grown (a := ⟨wr.heap.size, 1, none⟩) bx.lt (bx.cell 1) n os
            have e3 : ∀ n os, (Sort.grow (wb.drewN n) os).cell? ⟨w.heap.size, 0, none⟩ = some (.int .u64 f1) := fun n os => cell_grown (a := ⟨w.heap.size, 0, none⟩) bF10.lt (bF10.cell 0) n os
            have e4 : ∀ n os, (Sort.grow (wb.drewN n) os).cell? ⟨w.heap.size, 1, none⟩ = some (.int .u64 f2) := fun n os => cell_grown (a := ⟨w.heap.size, 1, none⟩) bF10.lt (bF10.cell 1) n os
            have e5 : ∀ n os, (Sort.grow (wb.drewN n) os).cell? ⟨w.heap.size + 1, 0, none⟩ = some (.int .u64 t1) := fun n os => cell_grown (a := ⟨w.heap.size + 1, 0, none⟩) bT10.lt (bT10.cell 0) n os
            have e6 : ∀ n os, (Sort.grow (wb.drewN n) os).cell? ⟨w.heap.size + 1, 1, none⟩ = some (.int .u64 t2) := fun n os => cell_grown (a := ⟨w.heap.size + 1, 1, none⟩) bT10.lt (bT10.cell 1) n os
            have GB := Lib.hid gb
            have hcases : (decide (0 ≤ u) = false ∧ decide ((x1, x2) ∈ P) = false) ∨ (decide (0 ≤ u) = true ∧ decide (z < 0) = true ∧ decide ((x1, x2) ∈ P) = true) ∨ (decide (0 ≤ u) = true ∧ decide (z < 0) = false ∧ decide ((x1, x2) ∈ P) = false) := by
              rw [HPX.out]
              cases decide (0 ≤ u) <;> cases decide (z < 0) <;> simp
            clear bx gb bF10 bT10
            rcases hcases with ⟨hu0, tp⟩ | ⟨hu0, hz0', tp⟩ | ⟨hu0, hz0', tp⟩
            all_goals
              have CP := Lib.hid (fun (n : Nat) (os : Array Obj) => Calls.gr_of (P := Try.prog) (has_pair _ P _ (HWP.out _ (GB.out.trans (Gr.grown wb n os))) x1 x2 _ tp))
              clear tp
              go_quiet_grown (first | (go_at_call 35; with_reducible exact CP.out _ _) | (go_at_call 12; with_reducible exact Calls.gr_of (compare_is _ _ _ _ u HU.out _)) | (go_at_call 12; with_reducible exact Calls.gr_of (compare_is _ _ _ _ z HZ.out _)))
              go_wp2
              go_roundw
              case rel => exact ⟨m + 1, by omega, by go_num, hG.trans (GB.out.trans (Gr.grown _ _ _))⟩
              case measure => simp [intOf]; omega
          · go_wp2_with fail
            refine (equalP_seg _ _ _ L _ (HO8.out.later hG.below).seg (O2.out.later B9)).mono ?_
            rw [HW.out, show decide (L = L) = true from by simp]
            rintro e w10 ⟨rfl, g10⟩
            go_wp2
            go_ret
            exact ⟨rfl, B2.trans (below_later B9 g10.below |>.mono B2.size)⟩
      · have HC0 := Lib.hid (ckP_no hck)
        have hf0 : F = [] := by rw [HF.out]; exact if_neg hck
        have hw0 : whole L F = [] := by rw [hf0]; rfl
        rw [hw0] at hvO
        simp only [List.length_nil] at hvO
        subst hvO
        clear hck hf0 hw0
        go_wp2_with fail
        refine (check_any _ L _ (O2.out.later hB)).mono ?_
        rw [HC0.out]
        rintro e w7 ⟨rfl, g7⟩
        go_wp2
        go_ret
        exact ⟨rfl, B2.trans (below_later hB g7.below |>.mono B2.size)⟩
end Go.Proofs.Yteipihoebnmagaa
