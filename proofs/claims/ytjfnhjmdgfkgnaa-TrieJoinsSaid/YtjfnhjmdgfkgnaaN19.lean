/- The reference: Ahead, Right, Has, With, Of. -/
import Derived.Test.YtjfnhjmdgfkgnaaN14
namespace Go.Proofs.Ytjfnhjmdgfkgnaa
open Go.RowKit Go.Proofs.Kit
set_option maxRecDepth 100000 in
set_option maxHeartbeats 1000000 in
theorem ahead_is (a b c d : Int) (t : Bool) (ht : decide (lt2 (a, b) (c, d)) = t) (w : World) :
    Calls Try.prog 99 #[PV a b, PV c d] w fun e w' => e = .returned (.bool t) ∧ Gr w w' := by
  subst ht
  rcases Int.lt_trichotomy a c with h | h | h
  · have e : decide (lt2 (a, b) (c, d)) = true := by simp [lt2, h]
    have h1 : decide (a < c) = true := by simpa using h
    rw [e]
    clear e
    go_enter Try.func99, Try.ntmps99
    go_wp2
    go_ret
    exact ⟨rfl, (Gr.alloc _ _).trans (Gr.alloc _ _)⟩
  · subst h
    by_cases k : b < d
    · have e : decide (lt2 (a, b) (a, d)) = true := by simp [lt2, k]
      have h1 : decide (b < d) = true := by simpa using k
      rw [e]
      clear e
      go_enter Try.func99, Try.ntmps99
      go_wp2
      go_ret
      exact ⟨rfl, (Gr.alloc _ _).trans (Gr.alloc _ _)⟩
    · have e : decide (lt2 (a, b) (a, d)) = false := by rw [decide_eq_false_iff_not]; unfold lt2; simp only; omega
      have h1 : decide (b < d) = false := by simpa using k
      rw [e]
      clear e
      go_enter Try.func99, Try.ntmps99
      go_wp2
      go_ret
      exact ⟨rfl, (Gr.alloc _ _).trans (Gr.alloc _ _)⟩
  · have e : decide (lt2 (a, b) (c, d)) = false := by rw [decide_eq_false_iff_not]; unfold lt2; simp only; omega
    have h1 : decide (a < c) = false := by simp; omega
    have h2 : (a == c) = false := by simp; omega
    rw [e]
    clear e
    go_enter Try.func99, Try.ntmps99
    go_wp2
    go_ret
    exact ⟨rfl, (Gr.alloc _ _).trans (Gr.alloc _ _)⟩
theorem filt_take {q : Pr → Bool} {l : List Pr} {k : Nat} (hk : k < l.length) : (l.take (k + 1)).filter q = (l.take k).filter q ++ if q l[k] then [l[k]] else [] := by
  rw [List.take_succ_eq_append_getElem hk, List.filter_append]
  by_cases h : q l[k] <;> simp [h]
set_option maxRecDepth 100000 in
set_option maxHeartbeats 4000000 in
theorem dwith_any (v : Value) (l : List Pr) (w : World) (hs : SegP w v l) (hl : l.length ≤ 1000000) (p1 p2 : Int) :
    Calls Try.prog 63 #[v, PV p1 p2] w fun e w' => ∃ v', e = .returned v' ∧ OwnP 83 w.heap.size w' v' (withP l (p1, p2)) ∧ Below w.heap.size w w' := by
  obtain ⟨i0, hi, hz0, hz1, hz2⟩ := infoP
  obtain ⟨o, c, rfl, _, _, _⟩ := hs.shape
  obtain ⟨n, hn⟩ : ∃ n, n = l.length := ⟨_, rfl⟩
  rw [← hn] at hl hs ⊢
  have HN := Lib.hid hn
  clear hn
  have HS0 := Lib.hid hs
  clear hs
  go_enter Try.func63, Try.ntmps63
  go_wp2
  obtain ⟨wb, hwb⟩ : ∃ wb, wb = w.alloc (.cells #[.int .u64 p1, .int .u64 p2] 83) := ⟨_, rfl⟩
  have hk : Blk wb w.heap.size #[.int .u64 p1, .int .u64 p2] 83 := by rw [hwb]; exact Blk.new _ _ _
  have hG0 : Gr w wb := by rw [hwb]; exact Gr.alloc _ _
  have HS := Lib.hid (HS0.out.later hG0.below)
  have hsz : wb.heap.size = w.heap.size + 1 := by rw [hwb]; simp
  have HSZ := Lib.hid hsz
  rw [← hwb]
  have HK := Lib.hid hk
  have HG0 := Lib.hid hG0
  clear hwb hk hG0 hsz HS0
  go_loopw [5, 12] (fun s i wr => ∃ k : Nat, k ≤ n ∧ i = .int .i64 (k : Int) ∧ Hid (OwnP 83 wb.heap.size wr s ((l.take k).filter fun x => decide (lt2 x (p1, p2)))) ∧ Below wb.heap.size wb wr) (fun _ i _ => n - (intOf i).toNat)
  case atStart => exact ⟨0, by omega, rfl, Lib.hid (by simpa using OwnP.nil _ _ _), Below.refl _ _⟩
  case round =>
    obtain ⟨k, hk, rfl, HO, hB⟩ := hrel
    by_cases hlt : k < n
    · have hkl : k < l.length := by have := HN.out; omega
      obtain ⟨b, f, rfl, hb, hcells⟩ := (HS.out.later hB).has hkl
      obtain ⟨d1, d2⟩ := hcells k hkl
      have bk := HK.out.later hB
      have c0 := bk.cell 0
      have c1 := bk.cell 1
      have lk := bk.lt
      simp only [List.getElem?_toArray, List.getElem?_cons_zero, List.getElem?_cons_succ] at c0 c1
      have hft := filt_take (q := fun x => decide (lt2 x (p1, p2))) hkl
      have hlen := List.length_filter_le (fun x => decide (lt2 x (p1, p2))) (l.take k)
      rw [List.length_take] at hlen
      obtain ⟨x, hx⟩ : ∃ x, x = l[k] := ⟨_, rfl⟩
      rw [← hx] at d1 d2 hft
      clear hx hcells bk
      obtain ⟨x1, x2⟩ := x
      simp only at d1 d2
      obtain ⟨t, ht⟩ : ∃ t, decide (lt2 (x1, x2) (p1, p2)) = t := ⟨_, rfl⟩
      rw [ht] at hft
      have HT := Lib.hid ht
      have HFT := Lib.hid hft
      obtain ⟨M, hM⟩ : ∃ M, M = (l.take k).filter fun x => decide (lt2 x (p1, p2)) := ⟨_, rfl⟩
      rw [← hM] at HO hlen HFT
      clear ht hft hM
      go_wp2_with fail
      refine (ahead_is x1 x2 p1 p2 t HT.out _).mono ?_
      rintro e w2 ⟨rfl, g2⟩
      have bx := (Blk.new wr #[.int .u64 x1, .int .u64 x2] 83).later g2.below
      have b2 : Below wb.heap.size wb w2 := (hB.alloc hB.size _).trans (g2.below.mono (by have := hB.size; simp; omega))
      have o2 : OwnP 83 wb.heap.size w2 _ M := (HO.out.alloc _).later g2.below
      have e0 := bx.cell 0
      have e1 := bx.cell 1
      have lx := bx.lt
      simp only [List.getElem?_toArray, List.getElem?_cons_zero, List.getElem?_cons_succ] at e0 e1
      clear d1 d2 c0 c1 lk g2 bx
      cases t
      · have O2 := Lib.hid o2
        clear o2 e0 e1 lx
        go_wp2
        go_roundw
        case rel => exact ⟨k + 1, by omega, by go_num, Lib.hid (by rw [HFT.out]; simpa using O2.out), b2⟩
        case measure => simp [intOf]; omega
      · have HO2 := Lib.hid (o2.alloc (.cells #[.int .u64 x1, .int .u64 x2] 83))
        have HSG := Lib.hid (SegP.one (w := w2) (t := 83) x1 x2)
        have hmb : M.length ≤ 1000000 := by omega
        clear o2 hlen
        go_wp2_with (at_builtin; refine wpList_append_segP rfl _ _ 46 rfl wb.heap.size 83 i0 (.agg #[.int .u64 0, .int .u64 0]) Try.underlying46 hi hz0 hz1 hz2 rfl _ _ rfl HO2.out _ [(x1, x2)] rfl HSG.out ?qa ?qb ?_)
        case qa => simp only [List.length_cons, List.length_nil]; omega
        case qb => have := b2.size; simp; omega
        intro v3 w3 hO3 hb3 _ _
        have O3 := Lib.hid hO3
        clear hO3 e0 e1 lx
        go_wp2
        go_roundw
        case rel => exact ⟨k + 1, by omega, by go_num, Lib.hid (by rw [HFT.out]; simpa using O3.out), (b2.alloc b2.size _).trans hb3⟩
        case measure => simp [intOf]; omega
    · have hO := HO.out
      rw [List.take_of_length_le (by have := HN.out; omega)] at hO
      have hlen := List.length_filter_le (fun x => decide (lt2 x (p1, p2))) l
      obtain ⟨A, hA⟩ : ∃ A, A = l.filter fun x => decide (lt2 x (p1, p2)) := ⟨_, rfl⟩
      rw [← hA] at hO hlen
      have HA := Lib.hid hA
      have hAb : A.length ≤ 1000000 := by have := HN.out; omega
      have bk := HK.out.later hB
      have c0 := bk.cell 0
      have c1 := bk.cell 1
      have lk := bk.lt
      simp only [List.getElem?_toArray, List.getElem?_cons_zero, List.getElem?_cons_succ] at c0 c1
      have HO2 := Lib.hid (hO.alloc (.cells #[.int .u64 p1, .int .u64 p2] 83))
      have HSG := Lib.hid (SegP.one (w := wr) (t := 83) p1 p2)
      clear hO hA hlen HO bk
      go_wp2_with (at_builtin; refine wpList_append_segP rfl _ _ 46 rfl wb.heap.size 83 i0 (.agg #[.int .u64 0, .int .u64 0]) Try.underlying46 hi hz0 hz1 hz2 rfl _ _ rfl HO2.out _ [(p1, p2)] rfl HSG.out ?qa ?qb ?_)
      case qa => simp only [List.length_cons, List.length_nil]; omega
      case qb => have := hB.size; simp; omega
      intro v3 w3 hO3 hb3 _ _
      have hB3 : Below wb.heap.size wb w3 := (hB.alloc hB.size _).trans hb3
      have HO3 := Lib.hid hO3
      clear hO3 hb3 c0 c1 lk hB
      go_wp2
      go_loopw [5, 30] (fun s i wr => ∃ k : Nat, k ≤ n ∧ i = .int .i64 (k : Int) ∧ Hid (OwnP 83 wb.heap.size wr s (A ++ [(p1, p2)] ++ (l.take k).filter fun x => decide (lt2 (p1, p2) x))) ∧ Below wb.heap.size wb wr) (fun _ i _ => n - (intOf i).toNat)
      case atStart => exact ⟨0, by omega, rfl, Lib.hid (by simpa using HO3.out), hB3⟩
      case round =>
        obtain ⟨k, hk, rfl, HO, hB⟩ := hrel
        by_cases hlt : k < n
        · have hkl : k < l.length := by have := HN.out; omega
          obtain ⟨b, f, rfl, hb, hcells⟩ := (HS.out.later hB).has hkl
          obtain ⟨d1, d2⟩ := hcells k hkl
          have bk := HK.out.later hB
          have c0 := bk.cell 0
          have c1 := bk.cell 1
          have lk := bk.lt
          simp only [List.getElem?_toArray, List.getElem?_cons_zero, List.getElem?_cons_succ] at c0 c1
          have hft := filt_take (q := fun x => decide (lt2 (p1, p2) x)) hkl
          have hlen := List.length_filter_le (fun x => decide (lt2 (p1, p2) x)) (l.take k)
          rw [List.length_take] at hlen
          have hml : (A ++ [(p1, p2)] ++ (l.take k).filter fun x => decide (lt2 (p1, p2) x)).length ≤ 3000000 := by simp only [List.length_append, List.length_cons, List.length_nil]; omega
          obtain ⟨x, hx⟩ : ∃ x, x = l[k] := ⟨_, rfl⟩
          rw [← hx] at d1 d2 hft
          clear hx hcells bk hlen
          obtain ⟨x1, x2⟩ := x
          simp only at d1 d2
          obtain ⟨t, ht⟩ : ∃ t, decide (lt2 (p1, p2) (x1, x2)) = t := ⟨_, rfl⟩
          rw [ht] at hft
          have HT := Lib.hid ht
          have HFT := Lib.hid (show A ++ [(p1, p2)] ++ (l.take (k + 1)).filter (fun x => decide (lt2 (p1, p2) x)) = (A ++ [(p1, p2)] ++ (l.take k).filter fun x => decide (lt2 (p1, p2) x)) ++ if t = true then [(x1, x2)] else [] by rw [hft, ← List.append_assoc])
          obtain ⟨M, hM⟩ : ∃ M, M = A ++ [(p1, p2)] ++ (l.take k).filter fun x => decide (lt2 (p1, p2) x) := ⟨_, rfl⟩
          rw [← hM] at HO hml HFT
          clear ht hft hM
          go_wp2_with fail
          refine (ahead_is p1 p2 x1 x2 t HT.out _).mono ?_
          rintro e w2 ⟨rfl, g2⟩
          have bx := (Blk.new wr #[.int .u64 x1, .int .u64 x2] 83).later g2.below
          have b2 : Below wb.heap.size wb w2 := (hB.alloc hB.size _).trans (g2.below.mono (by have := hB.size; simp; omega))
          have o2 : OwnP 83 wb.heap.size w2 _ M := (HO.out.alloc _).later g2.below
          have e0 := bx.cell 0
          have e1 := bx.cell 1
          have lx := bx.lt
          simp only [List.getElem?_toArray, List.getElem?_cons_zero, List.getElem?_cons_succ] at e0 e1
          clear d1 d2 c0 c1 lk g2 bx
          cases t
          · have O2 := Lib.hid o2
            clear o2 e0 e1 lx
            go_wp2
            go_roundw
            case rel => exact ⟨k + 1, by omega, by go_num, Lib.hid (by rw [HFT.out]; simpa using O2.out), b2⟩
            case measure => simp [intOf]; omega
          · have HO2 := Lib.hid (o2.alloc (.cells #[.int .u64 x1, .int .u64 x2] 83))
            have HSG := Lib.hid (SegP.one (w := w2) (t := 83) x1 x2)
            clear o2
            go_wp2_with (at_builtin; refine wpList_append_segP rfl _ _ 46 rfl wb.heap.size 83 i0 (.agg #[.int .u64 0, .int .u64 0]) Try.underlying46 hi hz0 hz1 hz2 rfl _ _ rfl HO2.out _ [(x1, x2)] rfl HSG.out ?qc ?qd ?_)
            case qc => simp only [List.length_cons, List.length_nil]; omega
            case qd => have := b2.size; simp; omega
            intro v3 w3 hO3 hb3 _ _
            have O3 := Lib.hid hO3
            clear hO3 e0 e1 lx
            go_wp2
            go_roundw
            case rel => exact ⟨k + 1, by omega, by go_num, Lib.hid (by rw [HFT.out]; simpa using O3.out), (b2.alloc b2.size _).trans hb3⟩
            case measure => simp [intOf]; omega
        · have hO := HO.out
          rw [List.take_of_length_le (by have := HN.out; omega), HA.out] at hO
          have he : withP l (p1, p2) = (l.filter fun x => decide (lt2 x (p1, p2))) ++ [(p1, p2)] ++ l.filter fun x => decide (lt2 (p1, p2) x) := by simp [withP]
          rw [← he] at hO
          have HO := Lib.hid hO
          clear hO he
          go_wp2
          go_ret
          refine ⟨_, rfl, HO.out.mono (by have := HSZ.out; omega), HG0.out.below.trans (hB.mono (by have := HSZ.out; omega))⟩
end Go.Proofs.Ytjfnhjmdgfkgnaa

