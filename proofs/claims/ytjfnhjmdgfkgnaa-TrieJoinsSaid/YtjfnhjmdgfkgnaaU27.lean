/- The reference of stage 7: Of. -/
import Derived.Test.YtjfnhjmdgfkgnaaU26
namespace Go.Proofs.Ytjfnhjmdgfkgnaa
open Go.RowKit Go.Proofs.Kit
theorem nameW {P : World → Prop} {w : World} (h : P w) : ∃ w', w' = w ∧ P w' := ⟨w, rfl, h⟩
set_option maxRecDepth 100000 in
set_option maxHeartbeats 8000000 in
theorem zof_any (v : Value) (l : List Pr) (w : World) (hs : SegP w v l) (hl : l.length ≤ 1000000) (hr : Run l) :
    Calls Try.prog 23 #[v] w fun e w' => ∃ vb vl, e = .returned (.agg #[vb, vl]) ∧ OwnR 68 w.heap.size w' vb (bof l) ∧ Owns .u64 32 w.heap.size w' vl (l.map (·.2)) ∧ Below w.heap.size w w' := by
  obtain ⟨j0, hj, jz0, jz1, jz2⟩ := infoB
  obtain ⟨i0, hi, hz0, hz1, hz2⟩ := infou
  obtain ⟨o, c, rfl, -, -, -⟩ := hs.shape
  obtain ⟨n, hn⟩ : ∃ n, n = l.length := ⟨_, rfl⟩
  rw [← hn] at hl hs ⊢
  have HN := Lib.hid hn
  have HS := Lib.hid hs
  have HR := Lib.hid hr
  have hmix := mixed
  clear hn hs hr
  go_enter Try.func23, Try.ntmps23
  go_wp2
  obtain ⟨W0, hW0⟩ : ∃ W0, W0 = (w.alloc (.cells #[.slice none 0 0, .slice none 0 0] 25)).alloc (.cells #[.slice none 0 0, .slice none 0 0] 25) := ⟨_, rfl⟩
  have z0 : ZI 25 68 32 w (.slice none 0 0) (.slice none 0 0) (zb l 0) ((l.map (·.2)).take 0) W0 := by
    rw [hW0]
    refine ⟨(Blk.new _ _ _).alloc _, ?_, OwnR.nil _ _ _, by simpa using Owns.nil _ _ _ _, ((Gr.alloc _ _).trans (Gr.alloc _ _)).below⟩
    have := Blk.new (w.alloc (.cells #[.slice none 0 0, .slice none 0 0] 25)) #[.slice none 0 0, .slice none 0 0] 25
    simpa using this
  have Z0 := Lib.hid z0
  rw [← hW0]
  clear hW0 z0
  go_loopw [11] (fun i wr => ∃ k : Nat, k ≤ n ∧ i = .int .i64 (k : Int) ∧ Hid (∃ vb vl, ZI 25 68 32 w vb vl (zb l k) ((l.map (·.2)).take k) wr)) (fun i _ => n - (intOf i).toNat)
  case atStart => exact ⟨0, by omega, rfl, Lib.hid ⟨_, _, Z0.out⟩⟩
  case round =>
    obtain ⟨k, hk, rfl, HZ⟩ := hrel
    obtain ⟨vb, vl, hz⟩ := HZ.out
    by_cases hlt : k < n
    · have hkl : k < l.length := by have := HN.out; omega
      obtain ⟨b, f, rfl, hbl0, -⟩ := HS.out.has hkl
      have hbl : b < wr.heap.size := Nat.lt_of_lt_of_le hbl0 hz.low.size
      have hcells := ((HS.out.later hz.low).has hkl)
      obtain ⟨b', f', e', -, hcells⟩ := hcells
      injection e' with e'
      injection e' with e1' e2' e3'
      clear e3'
      subst e1' e2'
      obtain ⟨d1, d2⟩ := hcells k hkl
      obtain ⟨u, hu⟩ : ∃ u, u = k - 1 := ⟨_, rfl⟩
      have hul : u < l.length := by omega
      have d3 := (hcells u hul).1
      have hnew : (0 < k → (l[u]'hul).1 < l[k].1) → zb l (k + 1) = zb l k ++ [(l[k].1, (k : Int), ((k + l.countP fun x => decide (x.1 = l[k].1) : Nat) : Int))] := fun h => zb_new HR.out hkl (fun h0 => by have := h h0; subst hu; exact this)
      have hsame : 0 < k → ¬ (l[u]'hul).1 < l[k].1 → zb l (k + 1) = zb l k := fun h0 h => zb_same HR.out hkl h0 (by subst hu; exact h)
      have hlf : (l.map (·.2)).take (k + 1) = (l.map (·.2)).take k ++ [l[k].2] := by
        rw [List.take_succ_eq_append_getElem (by simpa using hkl)]
        simp
      obtain ⟨x, hx⟩ : ∃ x, x = l[k] := ⟨_, rfl⟩
      rw [← hx] at d1 d2 hnew hsame hlf
      obtain ⟨p0, hp0⟩ : ∃ p0, p0 = (l[u]'hul).1 := ⟨_, rfl⟩
      rw [← hp0] at d3 hnew hsame
      obtain ⟨p1, p2⟩ := x
      simp only at d1 d2 hnew hsame hlf
      obtain ⟨C, hC⟩ : ∃ C, C = decide (k = 0 ∨ p0 < p1) := ⟨_, rfl⟩
      have HNEW := Lib.hid (fun (h : C = true) => hnew (fun h0 => by
        rw [hC] at h
        have := of_decide_eq_true h
        omega))
      have HSAME := Lib.hid (fun (h : C = false) => show zb l (k + 1) = zb l k by
        rw [hC] at h
        have h1 := of_decide_eq_false h
        exact hsame (by omega) (by omega))
      have hcase : (k = 0 ∧ C = true) ∨ (0 < k ∧ p0 < p1 ∧ C = true) ∨ (0 < k ∧ ¬ p0 < p1 ∧ C = false) := by
        rw [hC]
        by_cases h0 : k = 0
        · exact .inl ⟨h0, by simp [h0]⟩
        · by_cases h1 : p0 < p1
          · exact .inr (.inl ⟨by omega, h1, by simp [h1]⟩)
          · exact .inr (.inr ⟨by omega, h1, by simp [h0, h1]⟩)
      have HLF := Lib.hid hlf
      have HU := Lib.hid hu
      clear hx hp0 hnew hsame hlf hcells hC hu hul
      have HZ0 := Lib.hid hz
      obtain ⟨LB, hLB⟩ : ∃ LB, LB = zb l k := ⟨_, rfl⟩
      have hLBl : LB.length ≤ 1000000 := by rw [hLB]; have := zb_len l k; have := HN.out; omega
      obtain ⟨LL, hLL⟩ : ∃ LL, LL = (l.map (·.2)).take k := ⟨_, rfl⟩
      have hLLl : LL.length ≤ 1000000 := by rw [hLL, List.length_take, List.length_map]; omega
      rw [← hLB] at HZ0 HNEW HSAME
      rw [← hLL] at HZ0 HLF
      clear hLB hLL hz HZ
      have g1 : (k : Int) < (n : Int) := by omega
      go_upto_region 5 with fail
      obtain ⟨Wb, hWb⟩ : ∃ Wb, Wb = wr.alloc (.cells #[.int .u64 p1, .int .u64 p2] 83) := ⟨_, rfl⟩
      have gW : Gr wr Wb := by rw [hWb]; exact Gr.alloc _ _
      have b5 : Blk Wb wr.heap.size #[.int .u64 p1, .int .u64 p2] 83 := by rw [hWb]; exact Blk.new _ _ _
      obtain ⟨z5, hz5⟩ : ∃ z5, z5 = wr.heap.size := ⟨_, rfl⟩
      rw [← hz5] at b5
      rw [← hWb, ← hz5]
      have ZB := Lib.hid (HZ0.out.later gW.below)
      have B5 := Lib.hid b5
      obtain ⟨c0, c1, l5⟩ := b5.two
      have e3 := (gW.cell (p := ⟨b, f + u * 2, none⟩) hbl).trans d3
      have hbW : b < Wb.heap.size := Nat.lt_of_lt_of_le hbl gW.below.size
      clear d1 d2 d3 hWb gW b5 HZ0 hbl hz5
      go_cut [28] (fun s wx => s = .bool C ∧ Hid (Gr Wb wx))
      case first =>
        rcases hcase with ⟨h0, rfl⟩ | ⟨h0, h1, rfl⟩ | ⟨h0, h1, rfl⟩
        · have a1 : ((k : Int) == 0) = true := by simp; omega
          clear h0 g1
          go_quiet (fail)
          go_wp2
          go_meet
          exact ⟨rfl, Lib.hid (Gr.drewN _ _)⟩
        · have a1 : ((k : Int) == 0) = false := by simp; omega
          have q1 : IntKind.i64.wrap ((k : Int) - 1) = (u : Int) := by rw [IntKind.wrap_i64]; have := HU.out; omega
          have q4 : (u : Int) < (n : Int) := by have := HU.out; omega
          have t1 : decide (p0 < p1) = true := by simpa using h1
          clear h0 h1 g1
          go_quiet (fail)
          go_wp2
          go_meet
          exact ⟨rfl, Lib.hid (Gr.drewN _ _)⟩
        · have a1 : ((k : Int) == 0) = false := by simp; omega
          have q1 : IntKind.i64.wrap ((k : Int) - 1) = (u : Int) := by rw [IntKind.wrap_i64]; have := HU.out; omega
          have q4 : (u : Int) < (n : Int) := by have := HU.out; omega
          have t1 : decide (p0 < p1) = false := by simp; omega
          clear h0 h1 g1
          go_quiet (fail)
          go_wp2
          go_meet
          exact ⟨rfl, Lib.hid (Gr.drewN _ _)⟩
      case rest =>
        obtain ⟨rfl, HGX⟩ := hcut
        obtain ⟨wx, hwx, hgx⟩ := nameW (P := fun W => Gr Wb W) HGX.out
        subst hwx
        clear hgx hcase e3 c0 c1 l5
        have ZB := Lib.hid (ZB.out.later HGX.out.below)
        have B5 := Lib.hid (B5.out.later HGX.out.below)
        go_upto_if 28 with fail
        go_cut [6] from 12 to 62 (fun _ wy => Hid (∃ vb, ZI 25 68 32 w vb vl (zb l (k + 1)) LL wy) ∧ Hid (Blk wy z5 #[.int .u64 p1, .int .u64 p2] 83))
        case first =>
          cases C
          · have HZ := Lib.hid (show ∃ vb, ZI 25 68 32 w vb vl (zb l (k + 1)) LL wx from ⟨vb, by rw [HSAME.out rfl]; exact ZB.out⟩)
            go_wp2_with fail
            go_meet
            exact ⟨HZ, B5⟩
          · have hnw := HNEW.out rfl
            obtain ⟨N, hN⟩ : ∃ N, N = l.countP fun x => decide (x.1 = p1) := ⟨_, rfl⟩
            rw [← hN] at hnw
            have hNl : N ≤ n := by rw [hN, HN.out]; exact List.countP_le_length
            obtain ⟨M, hM⟩ : ∃ M, M = k + N := ⟨_, rfl⟩
            rw [← hM] at hnw
            have q1 : IntKind.i64.wrap ((k : Int) + (N : Int)) = (M : Int) := by rw [IntKind.wrap_i64]; omega
            have HNW := Lib.hid hnw
            have HNN := Lib.hid hN
            clear hnw hN hM HNEW HSAME
            go_wp2
            go_loopw [6, 31] (fun cnt i wy => ∃ j : Nat, j ≤ n ∧ i = .int .i64 (j : Int) ∧ cnt = .int .i64 (((l.take j).countP fun x => decide (x.1 = p1) : Nat) : Int) ∧ Hid (Gr wx wy)) (fun _ i _ => n - (intOf i).toNat)
            case atStart => exact ⟨0, by omega, rfl, rfl, Lib.hid (Gr.refl _)⟩
            case round =>
              obtain ⟨j, hj', rfl, rfl, hG⟩ := hrel
              have zr := ZB.out.later hG.out.below
              have hsr := HS.out.later zr.low
              have b5 := B5.out.later hG.out.below
              obtain ⟨c0, c1, l5⟩ := b5.two
              obtain ⟨x0, x1, lx⟩ := zr.x.two
              have x2 := zr.x.frozen 0
              by_cases hlj : j < n
              · have hjl : j < l.length := by have := HN.out; omega
                obtain ⟨b', f', e', hbl, hcells⟩ := hsr.has hjl
                injection e' with e'
                injection e' with e1' e2' e3'
                subst e1' e2'
                obtain ⟨d1, d2⟩ := hcells j hjl
                have hct : (l.take (j + 1)).countP (fun x => decide (x.1 = p1)) = (l.take j).countP (fun x => decide (x.1 = p1)) + if l[j].1 = p1 then 1 else 0 := by
                  rw [List.take_succ_eq_append_getElem hjl, List.countP_append, List.countP_singleton]
                  by_cases h : l[j].1 = p1 <;> simp [h]
                have hcl : (l.take j).countP (fun x => decide (x.1 = p1)) ≤ 1000000 := by
                  have h1 := List.countP_le_length (p := fun x : Pr => decide (x.1 = p1)) (l := l.take j)
                  rw [List.length_take] at h1
                  omega
                obtain ⟨y, hy⟩ : ∃ y, y = l[j] := ⟨_, rfl⟩
                rw [← hy] at d1 d2 hct
                obtain ⟨y1, y2⟩ := y
                simp only at d1 d2 hct
                obtain ⟨ct, hctt⟩ : ∃ ct, ct = (l.take j).countP fun x => decide (x.1 = p1) := ⟨_, rfl⟩
                rw [← hctt] at hct hcl ⊢
                have g2 : (j : Int) < (n : Int) := by omega
                by_cases h : y1 = p1
                · have t1 : (y1 == p1) = true := by simpa using h
                  rw [if_pos h] at hct
                  have HCT := Lib.hid hct
                  clear h hct hy hctt hcells e3' x0 x1 lx x2 zr hsr b5
                  go_wp2
                  go_roundw
                  case rel => exact ⟨j + 1, by omega, by go_num, by rw [HCT.out]; go_num, Lib.hid (hG.out.trans (Gr.alloc _ _))⟩
                  case measure => simp [intOf]; omega
                · have t1 : (y1 == p1) = false := by simpa using h
                  rw [if_neg h] at hct
                  have HCT := Lib.hid hct
                  clear h hct hy hctt hcells e3' x0 x1 lx x2 zr hsr b5
                  go_wp2
                  go_roundw
                  case rel => exact ⟨j + 1, by omega, by go_num, by rw [HCT.out]; rfl, Lib.hid (hG.out.trans (Gr.alloc _ _))⟩
                  case measure => simp [intOf]; omega
              · have e1 : (l.take j).countP (fun x => decide (x.1 = p1)) = N := by rw [List.take_of_length_le (by have := HN.out; omega)]; exact HNN.out.symm
                rw [e1]
                have HO2 := Lib.hid (zr.b.alloc (.cells #[.int .u64 p1, .int .i64 (k : Int), .int .i64 (M : Int)] 68))
                have HZ2 := Lib.hid (zr.later ((Gr.alloc wr (.cells #[.int .u64 p1, .int .i64 (k : Int), .int .i64 (M : Int)] 68)).below))
                have HB2 := Lib.hid (b5.alloc (.cells #[.int .u64 p1, .int .i64 (k : Int), .int .i64 (M : Int)] 68))
                have HSG := Lib.hid (SegR.one (w := wr) (t := 68) p1 (k : Int) (M : Int))
                have hws := zr.low.size
                clear e1 zr hsr b5
                go_wp2_with (at_builtin; refine wpList_append_segR rfl _ _ 22 rfl w.heap.size 68 j0 (.agg #[.int .u64 0, .int .i64 0, .int .i64 0]) Try.underlying22 hj jz0 jz1 jz2 rfl _ _ rfl HO2.out _ [(p1, (k : Int), (M : Int))] rfl HSG.out ?qa ?qc ?_)
                case qa => simp only [List.length_cons, List.length_nil]; omega
                case qc => simp; omega
                intro v3 w3 hO3 hb3 hg3 _
                obtain ⟨m3, o3, c3, rfl⟩ : ∃ m o c, v3 = .slice o m c := by
                  obtain ⟨a, b, e⟩ := hO3.shape
                  exact ⟨_, a, b, e⟩
                have hx3 := HZ2.out.x.grown hg3 (HO2.out.ne_blk HZ2.out.x (by decide))
                have hb5 := (HB2.out.grown hg3 (HO2.out.ne_blk HB2.out (by decide)))
                have hZ3 := HZ2.out.growB hO3 hg3 hb3 (by decide) (by decide) (by decide)
                rw [← HNW.out] at hZ3
                have HZ3 := Lib.hid (show ∃ vb, ZI 25 68 32 w vb vl (zb l (k + 1)) LL (w3.setCell ⟨w.heap.size + 1, 0, none⟩ (.slice o3 m3 c3)) from ⟨_, hZ3⟩)
                have HB3 := Lib.hid (hb5.other (p := ⟨w.heap.size + 1, 0, none⟩) (fun e => by
                  have h1 := hx3
                  have h2 := hb5
                  rw [e] at h2
                  unfold Blk at h1 h2
                  rw [h1] at h2
                  cases h2) (.slice o3 m3 c3))
                obtain ⟨x0, x1, lx⟩ := hx3.two
                have x2 := hx3.frozen 0
                clear hO3 hb3 hg3 hZ3 hx3 hb5 HO2 HSG HZ2 HB2
                go_wp2_with fail
                go_meet
                exact ⟨HZ3, HB3⟩
        case rest =>
          obtain ⟨HZ, HB5⟩ := hcut
          obtain ⟨vb2, hz⟩ := HZ.out
          obtain ⟨c0, c1, l5⟩ := HB5.out.two
          obtain ⟨x0, x1, lx⟩ := hz.x.two
          have HO2 := Lib.hid (hz.l.alloc (.cells #[.int .u64 p2] 32))
          have HZ2 := Lib.hid (hz.later ((Gr.alloc wc (.cells #[.int .u64 p2] 32)).below))
          have HSG := Lib.hid (Seg.one (k := .u64) (w := wc) (t := 32) p2)
          have hws := hz.low.size
          clear hz HZ hlt
          go_wp2_with (at_builtin; refine wpList_append_segG rfl _ _ 23 rfl .u64 w.heap.size 32 i0 (.int .u64 0) 8 Try.underlying23 hi hz0 hz1 hz2 rfl _ _ rfl HO2.out _ [p2] rfl HSG.out ?qd ?qe ?qf ?_)
          case qd => simp only [List.length_cons, List.length_nil]; omega
          case qe => simp only [List.length_cons, List.length_nil]; omega
          case qf => simp; omega
          intro v3 w3 hO3 hb3 hg3
          obtain ⟨m3, o3, c3, rfl⟩ : ∃ m o c, v3 = .slice o m c := by
            obtain ⟨a, b, e, _⟩ := hO3.seg.shape
            exact ⟨_, a, b, e⟩
          have hx3 := HZ2.out.x.grown hg3 (HO2.out.ne_blk HZ2.out.x (by decide))
          have hZ3 := HZ2.out.growL hO3 hg3 hb3 (by decide) (by decide) (by decide)
          rw [← HLF.out] at hZ3
          have HZ3 := Lib.hid hZ3
          obtain ⟨y0, y1, ly⟩ := hx3.two
          have y2 := hx3.frozen 1
          have g1 : k + 1 ≤ n := by omega
          clear hO3 hb3 hg3 hZ3 hx3 HO2 HSG HZ2 HB5
          go_wp2
          go_roundw
          case rel => exact ⟨k + 1, g1, by go_num, Lib.hid ⟨_, _, HZ3.out⟩⟩
          case measure => simp [intOf]; omega
    · have hkn : k = l.length := by have := HN.out; omega
      have eb : zb l k = bof l := by rw [hkn]; exact zb_all l
      have el : (l.map (·.2)).take k = l.map (·.2) := List.take_of_length_le (by rw [hkn, List.length_map]; omega)
      rw [eb, el] at hz
      obtain ⟨mb, ob, cb, rfl⟩ : ∃ m o c, vb = .slice o m c := by
        obtain ⟨a, b, e⟩ := hz.b.shape
        exact ⟨_, a, b, e⟩
      obtain ⟨ml, ol, cl, rfl⟩ : ∃ m o c, vl = .slice o m c := by
        obtain ⟨a, b, e, _⟩ := hz.l.seg.shape
        exact ⟨_, a, b, e⟩
      obtain ⟨x0, x1, lx⟩ := hz.x.two
      obtain ⟨r0, r1, lr⟩ := hz.r.two
      obtain ⟨f0, f1⟩ := hz.r.z2
      obtain ⟨s0, s1, _⟩ := (hz.r.set2 (.slice ob mb cb) (.slice ol ml cl)).two
      have HSS := Lib.hid (And.intro s0 s1)
      have HB := Lib.hid ((hz.b.other (hz.b.ne_blk hz.r (by decide)) 0 (.slice ob mb cb)).other (hz.b.ne_blk hz.r (by decide)) 1 (.slice ol ml cl))
      have HL := Lib.hid ((hz.l.oth (hz.l.ne_blk hz.r (by decide)) 0 (.slice ob mb cb)).oth (hz.l.ne_blk hz.r (by decide)) 1 (.slice ol ml cl))
      have HW := Lib.hid ((hz.low.setCell (p := ⟨w.heap.size, 0, none⟩) (by simp) (.slice ob mb cb)).setCell (p := ⟨w.heap.size, 1, none⟩) (by simp) (.slice ol ml cl))
      clear s0 s1 eb el hkn hz HZ hl
      go_wp2_with fail
      obtain ⟨s0, s1⟩ := HSS.out
      exact bodyPost_ret (v := .agg #[.slice ob mb cb, .slice ol ml cl]) (by simp [results, Try.results23, go_sem, s0, s1]) rfl ⟨_, _, rfl, HB.out, HL.out, HW.out⟩
end Go.Proofs.Ytjfnhjmdgfkgnaa

