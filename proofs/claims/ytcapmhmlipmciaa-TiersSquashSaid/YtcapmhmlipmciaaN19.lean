/- The reference: Ahead, Right, Has, With, Of. -/
import Derived.Test.YtcapmhmlipmciaaN15
namespace Go.Proofs.Ytcapmhmlipmciaa
open Go.RowKit Go.Proofs.Kit
set_option maxRecDepth 100000 in
set_option maxHeartbeats 1000000 in
theorem ahead_is (a b c d : Int) (t : Bool) (ht : decide (lt2 (a, b) (c, d)) = t) (w : World) :
    Calls Try.prog 49 #[PV a b, PV c d] w fun e w' => e = .returned (.bool t) ∧ Gr w w' := by
  subst ht
  rcases Int.lt_trichotomy a c with h | h | h
  · have e : decide (lt2 (a, b) (c, d)) = true := by simp [lt2, h]
    have h1 : decide (a < c) = true := by simpa using h
    rw [e]
    clear e
    go_enter Try.func49, Try.ntmps49
    go_wp2
    go_ret
    exact ⟨rfl, (Gr.alloc _ _).trans (Gr.alloc _ _)⟩
  · subst h
    by_cases k : b < d
    · have e : decide (lt2 (a, b) (a, d)) = true := by simp [lt2, k]
      have h1 : decide (b < d) = true := by simpa using k
      rw [e]
      clear e
      go_enter Try.func49, Try.ntmps49
      go_wp2
      go_ret
      exact ⟨rfl, (Gr.alloc _ _).trans (Gr.alloc _ _)⟩
    · have e : decide (lt2 (a, b) (a, d)) = false := by rw [decide_eq_false_iff_not]; unfold lt2; simp only; omega
      have h1 : decide (b < d) = false := by simpa using k
      rw [e]
      clear e
      go_enter Try.func49, Try.ntmps49
      go_wp2
      go_ret
      exact ⟨rfl, (Gr.alloc _ _).trans (Gr.alloc _ _)⟩
  · have e : decide (lt2 (a, b) (c, d)) = false := by rw [decide_eq_false_iff_not]; unfold lt2; simp only; omega
    have h1 : decide (a < c) = false := by simp; omega
    have h2 : (a == c) = false := by simp; omega
    rw [e]
    clear e
    go_enter Try.func49, Try.ntmps49
    go_wp2
    go_ret
    exact ⟨rfl, (Gr.alloc _ _).trans (Gr.alloc _ _)⟩
set_option maxRecDepth 100000 in
set_option maxHeartbeats 1000000 in
theorem right_any (v : Value) (l : List Pr) (w : World) (hs : SegP w v l) :
    Calls Try.prog 24 #[v] w fun e w' => e = .returned (.bool (decide (okP l))) ∧ Gr w w' := by
  have hmix := mixed
  have hl62 := hs.1
  obtain ⟨o, c, rfl, _, _, _⟩ := hs.shape
  obtain ⟨n, hn⟩ : ∃ n, n = l.length := ⟨_, rfl⟩
  rw [← hn] at hl62 hs ⊢
  have HN := Lib.hid hn
  have HS := Lib.hid hs
  clear hn hs
  go_enter Try.func24, Try.ntmps24
  go_wp2
  go_loopw [3, 6] (fun _ i wr => ∃ k : Nat, k ≤ n ∧ i = .int .i64 (k : Int) ∧ Hid (Run (l.take k)) ∧ Gr w wr) (fun _ i _ => n - (intOf i).toNat)
  case atStart => exact ⟨0, by omega, rfl, Lib.hid (by simp [Run]), Gr.refl _⟩
  case round =>
    obtain ⟨k, hk, rfl, HP, hG⟩ := hrel
    by_cases hlt : k < n
    · have hkl : k < l.length := by have := HN.out; omega
      cases k with
      | zero =>
        go_wp2
        go_quiet (fail)
        go_wp2
        go_roundw
        case rel =>
          refine ⟨1, by omega, rfl, Lib.hid ?_, hG.trans (Gr.drewN _ _)⟩
          rw [List.take_succ_eq_append_getElem hkl]
          simp [Run]
        case measure => simp [intOf]; omega
      | succ j =>
        obtain ⟨b, f, rfl, hb, hcells⟩ := HS.out.has hkl
        have hcr := hcells.below hG.below hb
        have hbr : b < wr.heap.size := Nat.lt_of_lt_of_le hb hG.below.size
        obtain ⟨d1, d2⟩ := hcr.grown hbr (i := j) (by omega)
        obtain ⟨d3, d4⟩ := hcr.grown hbr hkl
        obtain ⟨x, hx⟩ : ∃ x, x = l[j] := ⟨_, rfl⟩
        obtain ⟨y, hy⟩ : ∃ y, y = l[j + 1] := ⟨_, rfl⟩
        rw [← hx] at d1 d2
        rw [← hy] at d3 d4
        have HX := Lib.hid hx
        have HY := Lib.hid hy
        clear hx hy hcr hcells
        obtain ⟨x1, x2⟩ := x
        obtain ⟨y1, y2⟩ := y
        have q1 : IntKind.i64.wrap (j : Int) = (j : Int) := by rw [IntKind.wrap_i64]; omega
        have q2 : (j : Int) + 1 < (n : Int) := by omega
        have q3 : (j : Int) < (n : Int) := by omega
        have q4 : (0 : Int) ≤ (j : Int) + 1 := by omega
        have q5 : ((j : Int) + 1).toNat = j + 1 := by omega
        have q6 : (0 : Int) < (j : Int) + 1 := by omega
        by_cases hl : lt2 (x1, x2) (y1, y2)
        · have HT := Lib.hid (show decide (lt2 (x1, x2) (y1, y2)) = true by simpa using hl)
          have HLT := Lib.hid hl
          clear hl
          go_wp2
          go_quiet_grown ((go_at_call 49; refine Calls.gr_of (ahead_is _ _ _ _ true HT.out _)))
          go_wp2
          go_roundw
          case rel =>
            refine ⟨j + 1 + 1, by omega, by go_num, Lib.hid ?_, hG.trans (Gr.grown _ _ _)⟩
            refine run_take_succ hkl (by omega) HP.out ?_
            have e1 : l[j + 1 - 1]'(by omega) = (x1, x2) := HX.out.symm
            rw [e1, ← HY.out]
            exact HLT.out
          case measure => simp [intOf]; omega
        · have HT := Lib.hid (show decide (lt2 (x1, x2) (y1, y2)) = false by simpa using hl)
          have hq : decide (okP l) = false := by
            simp only [decide_eq_false_iff_not]
            intro hr
            refine hl ?_
            rw [HX.out, HY.out]
            exact hr.1.at (i := j) (j := j + 1) (by omega) hkl (by omega)
          have HQ := Lib.hid hq
          clear hl hq
          go_wp2
          go_quiet_grown ((go_at_call 49; refine Calls.gr_of (ahead_is _ _ _ _ false HT.out _)))
          go_wp2
          go_ret
          rw [HQ.out]
          exact ⟨rfl, hG.trans (Gr.grown _ _ _)⟩
    · have hr : Run l := by
        have := HP.out
        rwa [List.take_of_length_le (by have := HN.out; omega)] at this
      by_cases h20 : n ≤ 1048576
      · have HQ := Lib.hid (show decide (okP l) = true by simp only [decide_eq_true_eq]; exact ⟨hr, by have := HN.out; omega⟩)
        have h1 : decide ((n : Int) ≤ 1048576) = true := by simp; omega
        clear hr h20
        go_wp2
        go_ret
        rw [HQ.out]
        exact ⟨rfl, hG⟩
      · have HQ := Lib.hid (show decide (okP l) = false by simp only [decide_eq_false_iff_not]; exact fun h => h20 (by have := h.2; have := HN.out; omega))
        have h1 : decide ((n : Int) ≤ 1048576) = false := by simp; omega
        clear hr h20
        go_wp2
        go_ret
        rw [HQ.out]
        exact ⟨rfl, hG⟩
set_option maxRecDepth 100000 in
set_option maxHeartbeats 1000000 in
theorem dhas_is (v : Value) (l : List Pr) (w : World) (hs : SegP w v l) (p1 p2 : Int) (t : Bool) (ht : decide ((p1, p2) ∈ l) = t) :
    Calls Try.prog 46 #[v, PV p1 p2] w fun e w' => e = .returned (.bool t) ∧ Gr w w' := by
  have hl62 := hs.1
  obtain ⟨o, c, rfl, _, _, _⟩ := hs.shape
  obtain ⟨n, hn⟩ : ∃ n, n = l.length := ⟨_, rfl⟩
  rw [← hn] at hl62 hs ⊢
  have HN := Lib.hid hn
  have HS := Lib.hid hs
  have HT := Lib.hid ht
  clear hn hs ht
  go_enter Try.func46, Try.ntmps46
  go_wp2
  obtain ⟨wb, hwb⟩ : ∃ wb, wb = w.alloc (.cells #[.int .u64 p1, .int .u64 p2] 36) := ⟨_, rfl⟩
  have hk : Blk wb w.heap.size #[.int .u64 p1, .int .u64 p2] 36 := by rw [hwb]; exact Blk.new _ _ _
  have hG0 : Gr w wb := by rw [hwb]; exact Gr.alloc _ _
  rw [← hwb]
  have HK := Lib.hid hk
  clear hwb hk
  go_loopw [9] (fun i wr => ∃ k : Nat, k ≤ n ∧ i = .int .i64 (k : Int) ∧ Hid (∀ j (h : j < l.length), j < k → l[j] ≠ (p1, p2)) ∧ Gr wb wr) (fun i _ => n - (intOf i).toNat)
  case atStart => exact ⟨0, by omega, rfl, Lib.hid (fun j _ h => by omega), Gr.refl _⟩
  case round =>
    obtain ⟨k, hk, rfl, HI, hG⟩ := hrel
    by_cases hlt : k < n
    · have hkl : k < l.length := by have := HN.out; omega
      obtain ⟨b, f, rfl, hb, hcells⟩ := HS.out.has hkl
      obtain ⟨d1, d2⟩ := (hcells.below (hG0.trans hG).below hb) k hkl
      have hbr : b < wr.heap.size := Nat.lt_of_lt_of_le hb (hG0.trans hG).below.size
      have bk := HK.out.later hG.below
      have c0 := bk.cell 0
      have c1 := bk.cell 1
      have lk := bk.lt
      simp only [List.getElem?_toArray, List.getElem?_cons_zero, List.getElem?_cons_succ] at c0 c1
      obtain ⟨x, hx⟩ : ∃ x, x = l[k] := ⟨_, rfl⟩
      rw [← hx] at d1 d2
      have HX := Lib.hid hx
      clear hx hcells bk
      obtain ⟨x1, x2⟩ := x
      simp only at d1 d2
      by_cases hxy : x1 = p1 ∧ x2 = p2
      · have t1 : (x1 == p1) = true := by simpa using hxy.1
        have t2 : (x2 == p2) = true := by simpa using hxy.2
        have HM := Lib.hid (show t = true by rw [← HT.out, decide_eq_true_eq, ← hxy.1, ← hxy.2, HX.out]; exact List.getElem_mem hkl)
        clear hxy
        go_wp2
        go_ret
        rw [HM.out]
        exact ⟨rfl, hG0.trans (hG.trans (Gr.alloc _ _))⟩
      · have HI2 : Hid (∀ j (h : j < l.length), j < k + 1 → l[j] ≠ (p1, p2)) := Lib.hid fun j hj hjk => by
          by_cases e : j = k
          · subst e
            rw [← HX.out]
            intro q
            injection q with q1 q2
            exact hxy ⟨q1, q2⟩
          · exact HI.out j hj (by omega)
        by_cases h1 : x1 = p1
        · have t1 : (x1 == p1) = true := by simpa using h1
          have t2 : (x2 == p2) = false := by simpa using fun q => hxy ⟨h1, q⟩
          clear h1 hxy
          go_wp2
          go_roundw
          case rel => exact ⟨k + 1, by omega, by go_num, HI2, hG.trans (Gr.alloc _ _)⟩
          case measure => simp [intOf]; omega
        · have t1 : (x1 == p1) = false := by simpa using h1
          clear h1 hxy
          go_wp2
          go_roundw
          case rel => exact ⟨k + 1, by omega, by go_num, HI2, hG.trans (Gr.alloc _ _)⟩
          case measure => simp [intOf]; omega
    · have HM := Lib.hid (show t = false by
        rw [← HT.out, decide_eq_false_iff_not]
        intro hm
        obtain ⟨i, hi, e⟩ := List.getElem_of_mem hm
        exact HI.out i hi (by have := HN.out; omega) e)
      go_wp2
      go_ret
      rw [HM.out]
      exact ⟨rfl, hG0.trans hG⟩
theorem filt_take {q : Pr → Bool} {l : List Pr} {k : Nat} (hk : k < l.length) : (l.take (k + 1)).filter q = (l.take k).filter q ++ if q l[k] then [l[k]] else [] := by
  rw [List.take_succ_eq_append_getElem hk, List.filter_append]
  by_cases h : q l[k] <;> simp [h]
set_option maxRecDepth 100000 in
set_option maxHeartbeats 4000000 in
theorem dwith_any (v : Value) (l : List Pr) (w : World) (hs : SegP w v l) (hl : l.length ≤ 1000000) (p1 p2 : Int) :
    Calls Try.prog 69 #[v, PV p1 p2] w fun e w' => ∃ v', e = .returned v' ∧ OwnP 36 w.heap.size w' v' (withP l (p1, p2)) ∧ Below w.heap.size w w' := by
  obtain ⟨i0, hi, hz0, hz1, hz2⟩ := infoP
  obtain ⟨o, c, rfl, _, _, _⟩ := hs.shape
  obtain ⟨n, hn⟩ : ∃ n, n = l.length := ⟨_, rfl⟩
  rw [← hn] at hl hs ⊢
  have HN := Lib.hid hn
  clear hn
  have HS0 := Lib.hid hs
  clear hs
  go_enter Try.func69, Try.ntmps69
  go_wp2
  obtain ⟨wb, hwb⟩ : ∃ wb, wb = w.alloc (.cells #[.int .u64 p1, .int .u64 p2] 36) := ⟨_, rfl⟩
  have hk : Blk wb w.heap.size #[.int .u64 p1, .int .u64 p2] 36 := by rw [hwb]; exact Blk.new _ _ _
  have hG0 : Gr w wb := by rw [hwb]; exact Gr.alloc _ _
  have HS := Lib.hid (HS0.out.later hG0.below)
  have hsz : wb.heap.size = w.heap.size + 1 := by rw [hwb]; simp
  have HSZ := Lib.hid hsz
  rw [← hwb]
  have HK := Lib.hid hk
  have HG0 := Lib.hid hG0
  clear hwb hk hG0 hsz HS0
  go_loopw [5, 12] (fun s i wr => ∃ k : Nat, k ≤ n ∧ i = .int .i64 (k : Int) ∧ Hid (OwnP 36 wb.heap.size wr s ((l.take k).filter fun x => decide (lt2 x (p1, p2)))) ∧ Below wb.heap.size wb wr) (fun _ i _ => n - (intOf i).toNat)
  case atStart => exact ⟨0, by omega, rfl, Lib.hid (by simpa using OwnP.nil _ _ _), Below.refl _ _⟩
  case round =>
    obtain ⟨k, hk, rfl, HO, hB⟩ := hrel
    by_cases hlt : k < n
    · have hkl : k < l.length := by have := HN.out; omega
      obtain ⟨b, f, rfl, hb, hcells⟩ := (HS.out.later hB).has hkl
      obtain ⟨d1, d2⟩ := hcells k hkl
      have bk := HK.out.later hB
      have c0 := bk.cell 0
      have c1 := bk.cell 1
      have lk := bk.lt
      simp only [List.getElem?_toArray, List.getElem?_cons_zero, List.getElem?_cons_succ] at c0 c1
      have hft := filt_take (q := fun x => decide (lt2 x (p1, p2))) hkl
      have hlen := List.length_filter_le (fun x => decide (lt2 x (p1, p2))) (l.take k)
      rw [List.length_take] at hlen
      obtain ⟨x, hx⟩ : ∃ x, x = l[k] := ⟨_, rfl⟩
      rw [← hx] at d1 d2 hft
      clear hx hcells bk
      obtain ⟨x1, x2⟩ := x
      simp only at d1 d2
      obtain ⟨t, ht⟩ : ∃ t, decide (lt2 (x1, x2) (p1, p2)) = t := ⟨_, rfl⟩
      rw [ht] at hft
      have HT := Lib.hid ht
      have HFT := Lib.hid hft
      obtain ⟨M, hM⟩ : ∃ M, M = (l.take k).filter fun x => decide (lt2 x (p1, p2)) := ⟨_, rfl⟩
      rw [← hM] at HO hlen HFT
      clear ht hft hM
      go_wp2_with fail
      refine (ahead_is x1 x2 p1 p2 t HT.out _).mono ?_
      rintro e w2 ⟨rfl, g2⟩
      have bx := (Blk.new wr #[.int .u64 x1, .int .u64 x2] 36).later g2.below
      have b2 : Below wb.heap.size wb w2 := (hB.alloc hB.size _).trans (g2.below.mono (by have := hB.size; simp; omega))
      have o2 : OwnP 36 wb.heap.size w2 _ M := (HO.out.alloc _).later g2.below
      have e0 := bx.cell 0
      have e1 := bx.cell 1
      have lx := bx.lt
      simp only [List.getElem?_toArray, List.getElem?_cons_zero, List.getElem?_cons_succ] at e0 e1
      clear d1 d2 c0 c1 lk g2 bx
      cases t
      · have O2 := Lib.hid o2
        clear o2 e0 e1 lx
        go_wp2
        go_roundw
        case rel => exact ⟨k + 1, by omega, by go_num, Lib.hid (by rw [HFT.out]; simpa using O2.out), b2⟩
        case measure => simp [intOf]; omega
      · have HO2 := Lib.hid (o2.alloc (.cells #[.int .u64 x1, .int .u64 x2] 36))
        have HSG := Lib.hid (SegP.one (w := w2) (t := 36) x1 x2)
        have hmb : M.length ≤ 1000000 := by omega
        clear o2 hlen
        go_wp2_with (at_builtin; refine wpList_append_segP rfl _ _ 23 rfl wb.heap.size 36 i0 (.agg #[.int .u64 0, .int .u64 0]) Try.underlying23 hi hz0 hz1 hz2 rfl _ _ rfl HO2.out _ [(x1, x2)] rfl HSG.out ?qa ?qb ?_)
        case qa => simp only [List.length_cons, List.length_nil]; omega
        case qb => have := b2.size; simp; omega
        intro v3 w3 hO3 hb3 _ _
        have O3 := Lib.hid hO3
        clear hO3 e0 e1 lx
        go_wp2
        go_roundw
        case rel => exact ⟨k + 1, by omega, by go_num, Lib.hid (by rw [HFT.out]; simpa using O3.out), (b2.alloc b2.size _).trans hb3⟩
        case measure => simp [intOf]; omega
    · have hO := HO.out
      rw [List.take_of_length_le (by have := HN.out; omega)] at hO
      have hlen := List.length_filter_le (fun x => decide (lt2 x (p1, p2))) l
      obtain ⟨A, hA⟩ : ∃ A, A = l.filter fun x => decide (lt2 x (p1, p2)) := ⟨_, rfl⟩
      rw [← hA] at hO hlen
      have HA := Lib.hid hA
      have hAb : A.length ≤ 1000000 := by have := HN.out; omega
      have bk := HK.out.later hB
      have c0 := bk.cell 0
      have c1 := bk.cell 1
      have lk := bk.lt
      simp only [List.getElem?_toArray, List.getElem?_cons_zero, List.getElem?_cons_succ] at c0 c1
      have HO2 := Lib.hid (hO.alloc (.cells #[.int .u64 p1, .int .u64 p2] 36))
      have HSG := Lib.hid (SegP.one (w := wr) (t := 36) p1 p2)
      clear hO hA hlen HO bk
      go_wp2_with (at_builtin; refine wpList_append_segP rfl _ _ 23 rfl wb.heap.size 36 i0 (.agg #[.int .u64 0, .int .u64 0]) Try.underlying23 hi hz0 hz1 hz2 rfl _ _ rfl HO2.out _ [(p1, p2)] rfl HSG.out ?qa ?qb ?_)
      case qa => simp only [List.length_cons, List.length_nil]; omega
      case qb => have := hB.size; simp; omega
      intro v3 w3 hO3 hb3 _ _
      have hB3 : Below wb.heap.size wb w3 := (hB.alloc hB.size _).trans hb3
      have HO3 := Lib.hid hO3
      clear hO3 hb3 c0 c1 lk hB
      go_wp2
      go_loopw [5, 30] (fun s i wr => ∃ k : Nat, k ≤ n ∧ i = .int .i64 (k : Int) ∧ Hid (OwnP 36 wb.heap.size wr s (A ++ [(p1, p2)] ++ (l.take k).filter fun x => decide (lt2 (p1, p2) x))) ∧ Below wb.heap.size wb wr) (fun _ i _ => n - (intOf i).toNat)
      case atStart => exact ⟨0, by omega, rfl, Lib.hid (by simpa using HO3.out), hB3⟩
      case round =>
        obtain ⟨k, hk, rfl, HO, hB⟩ := hrel
        by_cases hlt : k < n
        · have hkl : k < l.length := by have := HN.out; omega
          obtain ⟨b, f, rfl, hb, hcells⟩ := (HS.out.later hB).has hkl
          obtain ⟨d1, d2⟩ := hcells k hkl
          have bk := HK.out.later hB
          have c0 := bk.cell 0
          have c1 := bk.cell 1
          have lk := bk.lt
          simp only [List.getElem?_toArray, List.getElem?_cons_zero, List.getElem?_cons_succ] at c0 c1
          have hft := filt_take (q := fun x => decide (lt2 (p1, p2) x)) hkl
          have hlen := List.length_filter_le (fun x => decide (lt2 (p1, p2) x)) (l.take k)
          rw [List.length_take] at hlen
          have hml : (A ++ [(p1, p2)] ++ (l.take k).filter fun x => decide (lt2 (p1, p2) x)).length ≤ 3000000 := by simp only [List.length_append, List.length_cons, List.length_nil]; omega
          obtain ⟨x, hx⟩ : ∃ x, x = l[k] := ⟨_, rfl⟩
          rw [← hx] at d1 d2 hft
          clear hx hcells bk hlen
          obtain ⟨x1, x2⟩ := x
          simp only at d1 d2
          obtain ⟨t, ht⟩ : ∃ t, decide (lt2 (p1, p2) (x1, x2)) = t := ⟨_, rfl⟩
          rw [ht] at hft
          have HT := Lib.hid ht
          have HFT := Lib.hid (show A ++ [(p1, p2)] ++ (l.take (k + 1)).filter (fun x => decide (lt2 (p1, p2) x)) = (A ++ [(p1, p2)] ++ (l.take k).filter fun x => decide (lt2 (p1, p2) x)) ++ if t = true then [(x1, x2)] else [] by rw [hft, ← List.append_assoc])
          obtain ⟨M, hM⟩ : ∃ M, M = A ++ [(p1, p2)] ++ (l.take k).filter fun x => decide (lt2 (p1, p2) x) := ⟨_, rfl⟩
          rw [← hM] at HO hml HFT
          clear ht hft hM
          go_wp2_with fail
          refine (ahead_is p1 p2 x1 x2 t HT.out _).mono ?_
          rintro e w2 ⟨rfl, g2⟩
          have bx := (Blk.new wr #[.int .u64 x1, .int .u64 x2] 36).later g2.below
          have b2 : Below wb.heap.size wb w2 := (hB.alloc hB.size _).trans (g2.below.mono (by have := hB.size; simp; omega))
          have o2 : OwnP 36 wb.heap.size w2 _ M := (HO.out.alloc _).later g2.below
          have e0 := bx.cell 0
          have e1 := bx.cell 1
          have lx := bx.lt
          simp only [List.getElem?_toArray, List.getElem?_cons_zero, List.getElem?_cons_succ] at e0 e1
          clear d1 d2 c0 c1 lk g2 bx
          cases t
          · have O2 := Lib.hid o2
            clear o2 e0 e1 lx
            go_wp2
            go_roundw
            case rel => exact ⟨k + 1, by omega, by go_num, Lib.hid (by rw [HFT.out]; simpa using O2.out), b2⟩
            case measure => simp [intOf]; omega
          · have HO2 := Lib.hid (o2.alloc (.cells #[.int .u64 x1, .int .u64 x2] 36))
            have HSG := Lib.hid (SegP.one (w := w2) (t := 36) x1 x2)
            clear o2
            go_wp2_with (at_builtin; refine wpList_append_segP rfl _ _ 23 rfl wb.heap.size 36 i0 (.agg #[.int .u64 0, .int .u64 0]) Try.underlying23 hi hz0 hz1 hz2 rfl _ _ rfl HO2.out _ [(x1, x2)] rfl HSG.out ?qc ?qd ?_)
            case qc => simp only [List.length_cons, List.length_nil]; omega
            case qd => have := b2.size; simp; omega
            intro v3 w3 hO3 hb3 _ _
            have O3 := Lib.hid hO3
            clear hO3 e0 e1 lx
            go_wp2
            go_roundw
            case rel => exact ⟨k + 1, by omega, by go_num, Lib.hid (by rw [HFT.out]; simpa using O3.out), (b2.alloc b2.size _).trans hb3⟩
            case measure => simp [intOf]; omega
        · have hO := HO.out
          rw [List.take_of_length_le (by have := HN.out; omega), HA.out] at hO
          have he : withP l (p1, p2) = (l.filter fun x => decide (lt2 x (p1, p2))) ++ [(p1, p2)] ++ l.filter fun x => decide (lt2 (p1, p2) x) := by simp [withP]
          rw [← he] at hO
          have HO := Lib.hid hO
          clear hO he
          go_wp2
          go_ret
          refine ⟨_, rfl, HO.out.mono (by have := HSZ.out; omega), HG0.out.below.trans (hB.mono (by have := HSZ.out; omega))⟩
end Go.Proofs.Ytcapmhmlipmciaa

