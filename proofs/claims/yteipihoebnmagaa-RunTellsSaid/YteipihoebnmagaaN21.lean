/- The reference: Kept, Between, Firsts, Seconds. -/
import Derived.Test.YteipihoebnmagaaN20
namespace Go.Proofs.Yteipihoebnmagaa
open Go.RowKit Go.Proofs.Kit
theorem dd_take_next {l : List Int} {j : Nat} (hk : j + 1 < l.length) : dd (l.take (j + 1 + 1)) = if l[j]'(by omega) = l[j + 1] then dd (l.take (j + 1)) else dd (l.take (j + 1)) ++ [l[j + 1]] := by
  have := dd_take_succ (l := l) (k := j + 1) (by omega) hk
  simpa using this
set_option maxRecDepth 100000 in
set_option maxHeartbeats 2000000 in
theorem dkept_any (v : Value) (l : List Pr) (vb : Value) (m : List Pr) (h : Bool) (w : World) (hs : SegP w v l) (hl : l.length ≤ 1000) (hsb : SegP w vb m) :
    Calls Try.prog 33 #[v, vb, .bool h] w fun e w' => ∃ v', e = .returned v' ∧ OwnP 30 w.heap.size w' v' (l.filter fun x => decide (x ∈ m) == h) ∧ Below w.heap.size w w' := by
  obtain ⟨i0, hi, hz0, hz1, hz2⟩ := infoP
  obtain ⟨ob, cb, rfl, _, _, _⟩ := hsb.shape
  have HSB := Lib.hid hsb
  clear hsb
  have hl62 := hs.1
  obtain ⟨o, c, rfl, _, _, _⟩ := hs.shape
  obtain ⟨n, hn⟩ : ∃ n, n = l.length := ⟨_, rfl⟩
  rw [← hn] at hl62 hl hs ⊢
  have HN := Lib.hid hn
  have HS := Lib.hid hs
  clear hn hs
  go_enter Try.func33, Try.ntmps33
  go_wp2
  go_loopw [7, 12] (fun s i wr => ∃ k : Nat, k ≤ n ∧ i = .int .i64 (k : Int) ∧ Hid (OwnP 30 w.heap.size wr s ((l.take k).filter fun x => decide (x ∈ m) == h)) ∧ Below w.heap.size w wr) (fun _ i _ => n - (intOf i).toNat)
  case atStart => exact ⟨0, by omega, rfl, Lib.hid (by simpa using OwnP.nil _ _ _), Below.refl _ _⟩
  case round =>
    obtain ⟨k, hk, rfl, HO, hB⟩ := hrel
    by_cases hlt : k < n
    · have hkl : k < l.length := by have := HN.out; omega
      obtain ⟨b, f, rfl, hb, hcells⟩ := (HS.out.later hB).has hkl
      obtain ⟨d1, d2⟩ := hcells k hkl
      have hft := filt_take (q := fun x => decide (x ∈ m) == h) hkl
      have hlen := List.length_filter_le (fun x => decide (x ∈ m) == h) (l.take k)
      rw [List.length_take] at hlen
      obtain ⟨x, hx⟩ : ∃ x, x = l[k] := ⟨_, rfl⟩
      rw [← hx] at d1 d2 hft
      clear hx hcells
      obtain ⟨x1, x2⟩ := x
      simp only at d1 d2
      obtain ⟨t, ht⟩ : ∃ t, decide ((x1, x2) ∈ m) = t := ⟨_, rfl⟩
      rw [ht] at hft
      have HT := Lib.hid ht
      obtain ⟨M, hM⟩ : ∃ M, M = (l.take k).filter fun x => decide (x ∈ m) == h := ⟨_, rfl⟩
      rw [← hM] at HO hlen hft
      have HFT0 := Lib.hid hft
      clear ht hft hM
      go_wp2_with fail
      refine (dhas_is _ m _ ((HSB.out.later hB).alloc _) x1 x2 t HT.out).mono ?_
      rintro e w2 ⟨rfl, g2⟩
      have bx := (Blk.new wr #[.int .u64 x1, .int .u64 x2] 30).later g2.below
      have b2 : Below w.heap.size w w2 := (hB.alloc hB.size _).trans (g2.below.mono (by have := hB.size; simp; omega))
      have o2 : OwnP 30 w.heap.size w2 _ M := (HO.out.alloc _).later g2.below
      have e0 := bx.cell 0
      have e1 := bx.cell 1
      have lx := bx.lt
      simp only [List.getElem?_toArray, List.getElem?_cons_zero, List.getElem?_cons_succ] at e0 e1
      clear d1 d2 g2 bx
      by_cases hth : t = h
      · subst hth
        have HFT : Hid ((l.take (k + 1)).filter (fun x => decide (x ∈ m) == t) = M ++ [(x1, x2)]) := Lib.hid (by rw [HFT0.out]; simp)
        cases t
        all_goals
          have HO2 := Lib.hid (o2.alloc (.cells #[.int .u64 x1, .int .u64 x2] 30))
          have HSG := Lib.hid (SegP.one (w := w2) (t := 30) x1 x2)
          clear o2
          go_wp2_with (at_builtin; refine wpList_append_segP rfl _ _ 22 rfl w.heap.size 30 i0 (.agg #[.int .u64 0, .int .u64 0]) Try.underlying22 hi hz0 hz1 hz2 rfl _ _ rfl HO2.out _ [(x1, x2)] rfl HSG.out ?qa ?qb ?_)
          case qa => simp only [List.length_cons, List.length_nil]; omega
          case qb => have := b2.size; simp; omega
          intro v3 w3 hO3 hb3 _ _
          have O3 := Lib.hid hO3
          clear hO3 e0 e1 lx
          go_wp2
          go_roundw
          case rel => exact ⟨k + 1, by omega, by go_num, Lib.hid (by rw [HFT.out]; simpa using O3.out), (b2.alloc b2.size _).trans hb3⟩
          case measure => simp [intOf]; omega
      · have t0 : (t == h) = false := by simpa using hth
        have HFT : Hid ((l.take (k + 1)).filter (fun x => decide (x ∈ m) == h) = M) := Lib.hid (by rw [HFT0.out, t0]; simp)
        clear hth
        have O2 := Lib.hid o2
        clear o2 e0 e1 lx
        go_wp2
        go_roundw
        case rel => exact ⟨k + 1, by omega, by go_num, Lib.hid (by rw [HFT.out]; simpa using O2.out), b2⟩
        case measure => simp [intOf]; omega
    · have hO := HO.out
      rw [List.take_of_length_le (by have := HN.out; omega)] at hO
      have HO := Lib.hid hO
      clear hO
      go_wp2
      go_ret
      exact ⟨_, rfl, HO.out, hB⟩
set_option maxRecDepth 100000 in
set_option maxHeartbeats 4000000 in
theorem dbetw_any (v : Value) (l : List Pr) (w : World) (hs : SegP w v l) (hl : l.length ≤ 1000) (f1 f2 t1 t2 : Int) :
    Calls Try.prog 21 #[v, PV f1 f2, PV t1 t2] w fun e w' => ∃ v', e = .returned v' ∧ OwnP 30 w.heap.size w' v' (l.filter fun x => !decide (lt2 x (f1, f2)) && decide (lt2 x (t1, t2))) ∧ Below w.heap.size w w' := by
  obtain ⟨i0, hi, hz0, hz1, hz2⟩ := infoP
  have hl62 := hs.1
  obtain ⟨o, c, rfl, _, _, _⟩ := hs.shape
  obtain ⟨n, hn⟩ : ∃ n, n = l.length := ⟨_, rfl⟩
  rw [← hn] at hl62 hl hs ⊢
  have HN := Lib.hid hn
  have HS := Lib.hid hs
  clear hn hs
  go_enter Try.func21, Try.ntmps21
  go_wp2
  obtain ⟨wb, hwb⟩ : ∃ wb, wb = (w.alloc (.cells #[.int .u64 f1, .int .u64 f2] 30)).alloc (.cells #[.int .u64 t1, .int .u64 t2] 30) := ⟨_, rfl⟩
  have hk1 : Blk wb w.heap.size #[.int .u64 f1, .int .u64 f2] 30 := by rw [hwb]; exact (Blk.new _ _ _).alloc _
  have hk2 : Blk wb (w.heap.size + 1) #[.int .u64 t1, .int .u64 t2] 30 := by rw [hwb]; have := Blk.new (w.alloc (.cells #[.int .u64 f1, .int .u64 f2] 30)) #[.int .u64 t1, .int .u64 t2] 30; simpa using this
  have hG0 : Gr w wb := by rw [hwb]; exact (Gr.alloc _ _).trans (Gr.alloc _ _)
  have hsz : w.heap.size ≤ wb.heap.size := hG0.below.size
  have HSZ := Lib.hid hsz
  have HS := Lib.hid (HS.out.later hG0.below)
  rw [← hwb]
  have HK1 := Lib.hid hk1
  have HK2 := Lib.hid hk2
  have HG0 := Lib.hid hG0
  clear hwb hk1 hk2 hG0 hsz
  go_loopw [7, 12] (fun s i wr => ∃ k : Nat, k ≤ n ∧ i = .int .i64 (k : Int) ∧ Hid (OwnP 30 wb.heap.size wr s ((l.take k).filter fun x => !decide (lt2 x (f1, f2)) && decide (lt2 x (t1, t2)))) ∧ Below wb.heap.size wb wr) (fun _ i _ => n - (intOf i).toNat)
  case atStart => exact ⟨0, by omega, rfl, Lib.hid (by simpa using OwnP.nil _ _ _), Below.refl _ _⟩
  case round =>
    obtain ⟨k, hk, rfl, HO, hB⟩ := hrel
    by_cases hlt : k < n
    · have hkl : k < l.length := by have := HN.out; omega
      obtain ⟨b, f, rfl, hb, hcells⟩ := (HS.out.later hB).has hkl
      obtain ⟨d1, d2⟩ := hcells k hkl
      have bk1 := HK1.out.later hB
      have bk2 := HK2.out.later hB
      have c0 := bk1.cell 0
      have c1 := bk1.cell 1
      have lk1 := bk1.lt
      have lk2 := bk2.lt
      simp only [List.getElem?_toArray, List.getElem?_cons_zero, List.getElem?_cons_succ] at c0 c1
      have HBK2 := Lib.hid bk2
      have hft := filt_take (q := fun x => !decide (lt2 x (f1, f2)) && decide (lt2 x (t1, t2))) hkl
      have hlen := List.length_filter_le (fun x => !decide (lt2 x (f1, f2)) && decide (lt2 x (t1, t2))) (l.take k)
      rw [List.length_take] at hlen
      obtain ⟨x, hx⟩ : ∃ x, x = l[k] := ⟨_, rfl⟩
      rw [← hx] at d1 d2 hft
      clear hx hcells bk1 bk2
      obtain ⟨x1, x2⟩ := x
      simp only at d1 d2
      obtain ⟨u, hu⟩ : ∃ t, decide (lt2 (x1, x2) (f1, f2)) = t := ⟨_, rfl⟩
      obtain ⟨z, hz⟩ : ∃ t, decide (lt2 (x1, x2) (t1, t2)) = t := ⟨_, rfl⟩
      rw [hu, hz] at hft
      have HU := Lib.hid hu
      have HZ := Lib.hid hz
      obtain ⟨M, hM⟩ : ∃ M, M = (l.take k).filter fun x => !decide (lt2 x (f1, f2)) && decide (lt2 x (t1, t2)) := ⟨_, rfl⟩
      rw [← hM] at HO hlen hft
      have HFT0 := Lib.hid hft
      clear hu hz hft hM
      go_wp2_with fail
      refine (ahead_is x1 x2 f1 f2 u HU.out _).mono ?_
      rintro e w2 ⟨rfl, g2⟩
      have bx := (Blk.new wr #[.int .u64 x1, .int .u64 x2] 30).later g2.below
      have b2 : Below wb.heap.size wb w2 := (hB.alloc hB.size _).trans (g2.below.mono (by have := hB.size; simp; omega))
      have o2 : OwnP 30 wb.heap.size w2 _ M := (HO.out.alloc _).later g2.below
      have e0 := bx.cell 0
      have e1 := bx.cell 1
      have lx := bx.lt
      simp only [List.getElem?_toArray, List.getElem?_cons_zero, List.getElem?_cons_succ] at e0 e1
      have bt := (HBK2.out.alloc (.cells #[.int .u64 x1, .int .u64 x2] 30)).later g2.below
      have t0 := bt.cell 0
      have t1' := bt.cell 1
      have lt' := bt.lt
      simp only [List.getElem?_toArray, List.getElem?_cons_zero, List.getElem?_cons_succ] at t0 t1'
      have HBX := Lib.hid bx
      clear d1 d2 c0 c1 lk1 lk2 g2 bx bt
      cases u
      · go_wp2_with fail
        refine (ahead_is x1 x2 t1 t2 z HZ.out _).mono ?_
        rintro e w4 ⟨rfl, g4⟩
        have bx := HBX.out.later g4.below
        have b2 : Below wb.heap.size wb w4 := b2.trans (g4.below.mono b2.size)
        have o2 := o2.later g4.below
        clear e0 e1 lx t0 t1' lt' g4
        have e0 := bx.cell 0
        have e1 := bx.cell 1
        have lx := bx.lt
        simp only [List.getElem?_toArray, List.getElem?_cons_zero, List.getElem?_cons_succ] at e0 e1
        clear bx
        cases z
        · have HFT : Hid ((l.take (k + 1)).filter (fun x => !decide (lt2 x (f1, f2)) && decide (lt2 x (t1, t2))) = M) := Lib.hid (by rw [HFT0.out]; simp)
          have O2 := Lib.hid o2
          clear o2 e0 e1 lx
          go_wp2
          go_roundw
          case rel => exact ⟨k + 1, by omega, by go_num, Lib.hid (by rw [HFT.out]; simpa using O2.out), b2⟩
          case measure => simp [intOf]; omega
        · have HFT : Hid ((l.take (k + 1)).filter (fun x => !decide (lt2 x (f1, f2)) && decide (lt2 x (t1, t2))) = M ++ [(x1, x2)]) := Lib.hid (by rw [HFT0.out]; simp)
          have HO2 := Lib.hid (o2.alloc (.cells #[.int .u64 x1, .int .u64 x2] 30))
          have HSG := Lib.hid (SegP.one (w := w4) (t := 30) x1 x2)
          clear o2
          go_wp2_with (at_builtin; refine wpList_append_segP rfl _ _ 22 rfl wb.heap.size 30 i0 (.agg #[.int .u64 0, .int .u64 0]) Try.underlying22 hi hz0 hz1 hz2 rfl _ _ rfl HO2.out _ [(x1, x2)] rfl HSG.out ?qa ?qb ?_)
          case qa => simp only [List.length_cons, List.length_nil]; omega
          case qb => have := b2.size; simp; omega
          intro v3 w3 hO3 hb3 _ _
          have O3 := Lib.hid hO3
          clear hO3 e0 e1 lx
          go_wp2
          go_roundw
          case rel => exact ⟨k + 1, by omega, by go_num, Lib.hid (by rw [HFT.out]; simpa using O3.out), (b2.alloc b2.size _).trans hb3⟩
          case measure => simp [intOf]; omega
      · have HFT : Hid ((l.take (k + 1)).filter (fun x => !decide (lt2 x (f1, f2)) && decide (lt2 x (t1, t2))) = M) := Lib.hid (by rw [HFT0.out]; simp)
        clear t0 t1' lt'
        have O2 := Lib.hid o2
        clear o2 e0 e1 lx
        go_wp2
        go_roundw
        case rel => exact ⟨k + 1, by omega, by go_num, Lib.hid (by rw [HFT.out]; simpa using O2.out), b2⟩
        case measure => simp [intOf]; omega
    · have hO := HO.out
      rw [List.take_of_length_le (by have := HN.out; omega)] at hO
      have HO := Lib.hid hO
      clear hO
      go_wp2
      go_ret
      exact ⟨_, rfl, HO.out.mono HSZ.out, HG0.out.below.trans (hB.mono HSZ.out)⟩
set_option maxRecDepth 100000 in
set_option maxHeartbeats 2000000 in
theorem dsecs_any (v : Value) (l : List Pr) (w : World) (hs : SegP w v l) (hl : l.length ≤ 1000) (a : Int) :
    Calls Try.prog 24 #[v, .int .u64 a] w fun e w' => ∃ v', e = .returned v' ∧ Owns .u64 28 w.heap.size w' v' ((l.filter fun x => decide (x.1 = a)).map (·.2)) ∧ Below w.heap.size w w' := by
  obtain ⟨i0, hi, hz0, hz1, hz2⟩ := infou
  have hl62 := hs.1
  obtain ⟨o, c, rfl, _, _, _⟩ := hs.shape
  obtain ⟨n, hn⟩ : ∃ n, n = l.length := ⟨_, rfl⟩
  rw [← hn] at hl62 hl hs ⊢
  have HN := Lib.hid hn
  have HS := Lib.hid hs
  clear hn hs
  go_enter Try.func24, Try.ntmps24
  go_wp2
  go_loopw [5, 10] (fun s i wr => ∃ k : Nat, k ≤ n ∧ i = .int .i64 (k : Int) ∧ Hid (Owns .u64 28 w.heap.size wr s (((l.take k).filter fun x => decide (x.1 = a)).map (·.2))) ∧ Below w.heap.size w wr) (fun _ i _ => n - (intOf i).toNat)
  case atStart => exact ⟨0, by omega, rfl, Lib.hid (by simpa using Owns.nil _ _ _ _), Below.refl _ _⟩
  case round =>
    obtain ⟨k, hk, rfl, HO, hB⟩ := hrel
    by_cases hlt : k < n
    · have hkl : k < l.length := by have := HN.out; omega
      obtain ⟨b, f, rfl, hb, hcells⟩ := (HS.out.later hB).has hkl
      obtain ⟨d1, d2⟩ := hcells k hkl
      have hft := filt_take (q := fun x => decide (x.1 = a)) hkl
      have hlen := List.length_filter_le (fun x : Pr => decide (x.1 = a)) (l.take k)
      rw [List.length_take] at hlen
      obtain ⟨x, hx⟩ : ∃ x, x = l[k] := ⟨_, rfl⟩
      rw [← hx] at d1 d2 hft
      clear hx hcells
      obtain ⟨x1, x2⟩ := x
      simp only at d1 d2
      have hlen2 : (((l.take k).filter fun x => decide (x.1 = a)).map (·.2)).length ≤ 1000 := by rw [List.length_map]; omega
      have HFT0 := Lib.hid (show (((l.take (k + 1)).filter fun x => decide (x.1 = a)).map (·.2)) = ((l.take k).filter fun x => decide (x.1 = a)).map (·.2) ++ if decide (x1 = a) = true then [x2] else [] by rw [hft, List.map_append]; by_cases h : x1 = a <;> simp [h])
      obtain ⟨M, hM⟩ : ∃ M, M = ((l.take k).filter fun x => decide (x.1 = a)).map (·.2) := ⟨_, rfl⟩
      rw [← hM] at HO hlen2 HFT0
      obtain ⟨w2, hw2⟩ : ∃ w2, w2 = wr.alloc (.cells #[.int .u64 x1, .int .u64 x2] 30) := ⟨_, rfl⟩
      have bx : Blk w2 wr.heap.size #[.int .u64 x1, .int .u64 x2] 30 := by rw [hw2]; exact Blk.new _ _ _
      have b2 : Below w.heap.size w w2 := by rw [hw2]; exact hB.alloc hB.size _
      have o2 := HO.out.alloc (.cells #[.int .u64 x1, .int .u64 x2] 30)
      have e0 := bx.cell 0
      have e1 := bx.cell 1
      have lx := bx.lt
      simp only [List.getElem?_toArray, List.getElem?_cons_zero, List.getElem?_cons_succ] at e0 e1
      have HW2 := Lib.hid hw2
      clear hft hM hlen bx hw2
      by_cases hxa : x1 = a
      · have q0 : (x1 == a) = true := by simpa using hxa
        have HFT : Hid ((((l.take (k + 1)).filter fun x => decide (x.1 = a)).map (·.2)) = M ++ [x2]) := Lib.hid (by rw [HFT0.out, if_pos (by simpa using hxa)])
        clear hxa
        rw [HW2.out] at b2 e0 e1 lx
        have HO2 := Lib.hid (o2.alloc (.cells #[.int .u64 x2] 28))
        have hsg := Seg.one (k := .u64) (w := wr.alloc (.cells #[.int .u64 x1, .int .u64 x2] 30)) (t := 28) x2
        rw [show (wr.alloc (.cells #[.int .u64 x1, .int .u64 x2] 30)).heap.size = wr.heap.size + 1 by simp] at hsg
        have HSG := Lib.hid hsg
        clear o2 hsg
        go_wp2_with (at_builtin; refine wpList_append_seg rfl _ _ 36 rfl .u64 w.heap.size 28 i0 (.int .u64 0) 8 Try.underlying36 hi hz0 hz1 hz2 rfl _ _ rfl HO2.out _ [x2] rfl HSG.out ?qa ?qb ?qc ?_)
        case qa => simp only [List.length_cons, List.length_nil]; omega
        case qb => simp only [List.length_cons, List.length_nil]; omega
        case qc => have := hB.size; simp; omega
        intro v3 w3 hO3 hb3
        have O3 := Lib.hid hO3
        clear hO3 e0 e1 lx
        go_wp2
        go_roundw
        case rel => exact ⟨k + 1, by omega, by go_num, Lib.hid (by rw [HFT.out]; simpa using O3.out), (b2.alloc b2.size _).trans hb3⟩
        case measure => simp [intOf]; omega
      · have q0 : (x1 == a) = false := by simpa using hxa
        have HFT : Hid ((((l.take (k + 1)).filter fun x => decide (x.1 = a)).map (·.2)) = M) := Lib.hid (by rw [HFT0.out, if_neg (by simpa using hxa), List.append_nil])
        clear hxa
        rw [HW2.out] at b2
        have O2 := Lib.hid o2
        clear o2 e0 e1 lx
        go_wp2
        go_roundw
        case rel => exact ⟨k + 1, by omega, by go_num, Lib.hid (by rw [HFT.out]; exact O2.out), b2⟩
        case measure => simp [intOf]; omega
    · have hO := HO.out
      rw [List.take_of_length_le (by have := HN.out; omega)] at hO
      have HO := Lib.hid hO
      clear hO
      go_wp2
      go_ret
      exact ⟨_, rfl, HO.out, hB⟩
end Go.Proofs.Yteipihoebnmagaa
