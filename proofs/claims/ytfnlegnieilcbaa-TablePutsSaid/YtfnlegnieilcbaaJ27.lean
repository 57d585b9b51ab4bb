/- TablePuts: the law's walk. -/
import Derived.Test.YtfnlegnieilcbaaJ26
import Derived.Deep.CutBlock
namespace Go.Proofs.Ytfnlegnieilcbaa
open Go.RowKit Go.Proofs.Kit Go.Shelf
theorem put_fit (vT vS : Value) (T : List ByteArray) (S : List Int) (s : ByteArray) (hs : s.size ≤ 9223372036854775807) (w : World) (hT : Sl w vT (T.map Value.string)) (hS : Sl w vS (S.map (Value.int .i64))) (hm : S.length ≤ 4096) (hTl : T.length ≤ 1000)
    (hsz : ∀ s ∈ T, s.size ≤ 9223372036854775807) (hg : Kit.Good hsh T S) (B : Nat) (hB : B ≤ w.heap.size) :
    Calls Try.prog 20 #[.agg #[vT, vS], .string s] w fun e w' => ∃ T' p S' oA xA oB xB nA nB, e = .returned (.tuple #[.agg #[.slice oA nA xA, .slice oB nB xB], .int .i64 ((p : Nat) : Int), .int .i64 0]) ∧ PutT T s T' p ∧ Kit.Good hsh T' S' ∧ S'.length ≤ 4096 ∧ nA = T'.length ∧ nB = S'.length ∧
      Ow 9 B w' (.slice oA nA xA) (T'.map Value.string) ∧ Ow 3 B w' (.slice oB nB xB) (S'.map (Value.int .i64)) ∧ Below w.heap.size w w' := by
  refine (put_any vT vS T S s hs w hT hS (by omega) (by omega) hsz).mono ?_
  rintro e w' (⟨_, h, hb⟩ | ⟨_, _, _, h, hb⟩ | ⟨_, T', k, vT', vS', vN', _, hk, ha⟩)
  · exact (h hg).elim
  · omega
  · obtain ⟨S', p1, p2, p3, p4⟩ := ha.ex
    obtain ⟨o3, x3, rfl⟩ := p1.shape
    obtain ⟨o4, x4, rfl⟩ := p2.shape
    exact ⟨T', k, S', o3, x3, o4, x4, _, _, rfl, hk, p3, by omega, by simp, by simp, p1.mono hB, p2.mono hB, ha.low⟩
theorem put_no (vT vS : Value) (T : List ByteArray) (S : List Int) (s : ByteArray) (hs : s.size ≤ 9223372036854775807) (w : World) (hT : Sl w vT (T.map Value.string)) (hS : Sl w vS (S.map (Value.int .i64))) (hm : S.length ≤ 4096) (hTl : T.length ≤ 1000)
    (hsz : ∀ s ∈ T, s.size ≤ 9223372036854775807) (hg : ¬ Kit.Good hsh T S) :
    Calls Try.prog 20 #[.agg #[vT, vS], .string s] w fun e w' => e = .returned (.tuple #[.agg #[.slice none 0 0, .slice none 0 0], .int .i64 0, .int .i64 150]) ∧ Below w.heap.size w w' := by
  refine (put_any vT vS T S s hs w hT hS (by omega) (by omega) hsz).mono ?_
  rintro e w' (⟨_, h, hb⟩ | ⟨_, h, _, _, hb⟩ | ⟨_, T', k, vT', vS', vN', h, hk, ha⟩)
  · exact ⟨rfl, hb⟩
  · exact (hg h).elim
  · exact (hg h).elim
abbrev RWt (Bp B b13 : Nat) (Wp : World) (vT' vS' vA' : Value) (T' : List ByteArray) (S' : List Int) (W : World) : Prop := RW 25 9 3 Bp B b13 Wp vT' vS' vA' T' S' W
abbrev ZWt (Bp Bn B b13 b19 : Nat) (Wp : World) (vT' vS' vU vV vA' : Value) (T' : List ByteArray) (S' : List Int) (m : Nat) (W : World) : Prop := ZW 25 9 3 Bp Bn B b13 b19 Wp vT' vS' vU vV vA' T' S' m W
abbrev PWt (B b : Nat) (w : World) (vT vS vA vL vN : Value) (Tk Lk : List ByteArray) (Sk ns : List Int) (W : World) : Prop := PW 25 9 3 B b w vT vS vA vL vN Tk Lk Sk ns W
set_option maxRecDepth 100000 in
set_option maxHeartbeats 8000000 in
theorem puts_true (oT oS : Option Addr) (nT cT nS cS : Nat) (T : List ByteArray) (S : List Int) (oX : Option Addr) (nX cX : Nat) (tx : List ByteArray) (w : World) (hlT : T.length = nT) (hlS : S.length = nS) (hT : nT ≤ 9223372036854775807) (hS : nS ≤ 9223372036854775807)
    (aT : ArgV w oT cT (T.map Value.string)) (aS : ArgV w oS cS (S.map (Value.int .i64))) (hz : ∀ s ∈ T, s.size ≤ 9223372036854775807)
    (hlX : tx.length = nX) (aX : ArgV w oX cX (tx.map Value.string)) (hzX : ∀ s ∈ tx, s.size ≤ 9223372036854775807) :
    Calls Try.prog 4 #[.agg #[.slice oT nT cT, .slice oS nS cS], .slice oX nX cX] w fun e w' => e = .returned (.bool true) ∧ Below w.heap.size w w' := by
  obtain ⟨i0, hi, hz0, hz1, hz2⟩ := infos
  obtain ⟨i1, hi', hz0', hz1', hz2'⟩ := infoi
  have AT := Lib.hid aT
  have AS := Lib.hid aS
  have AX := Lib.hid aX
  have HZ := Lib.hid hz
  have HZX := Lib.hid hzX
  have HLT := Lib.hid hlT
  have HLS := Lib.hid hlS
  have HLX := Lib.hid hlX
  obtain ⟨bsm, hbsm⟩ := bool_of (nT ≤ 40 ∧ nS ≤ 128)
  have HBS := Lib.hid hbsm
  clear aT aS aX hz hzX hlT hlS hlX hbsm
  go_enter Try.func4, Try.ntmps4
  go_wp2_with fail
  obtain ⟨W1, hW1⟩ : ∃ W1, W1 = w.alloc (.cells #[.slice oT nT cT, .slice oS nS cS] 25) := ⟨_, rfl⟩
  have b1 : Below w.heap.size w W1 := by rw [hW1]; exact (Gr.alloc _ _).below
  have k1 : Blk W1 w.heap.size #[.slice oT nT cT, .slice oS nS cS] 25 := by rw [hW1]; exact Blk.new _ _ _
  rw [← hW1]
  clear hW1
  refine (wakes_any W1).mono ?_
  rintro e W2 ⟨rfl, b2⟩
  have bb2 : Below w.heap.size w W2 := b1.trans (b2.mono b1.size)
  have k2 := k1.later b2
  obtain ⟨c0, c1⟩ : W2.cell? ⟨w.heap.size, 0, none⟩ = some (.slice oT nT cT) ∧ W2.cell? ⟨w.heap.size, 1, none⟩ = some (.slice oS nS cS) := ⟨k2.cell 0, k2.cell 1⟩
  have K2 := Lib.hid k2
  clear k1 k2 b1 b2
  go_wp2_with fail
  refine (small_any oT oS nT cT nS cS W2 hT hS bsm HBS.out).mono ?_
  rintro e W3 ⟨rfl, g3⟩
  have bb3 := below_gr bb2 g3 bb2.size
  cases bsm
  · go_wp2
    go_ret
    exact ⟨rfl, bb3⟩
  · obtain ⟨h40, h128⟩ : nT ≤ 40 ∧ nS ≤ 128 := by have := HBS.out; simpa using this
    have k3 := K2.out.gr g3
    obtain ⟨c0, c1⟩ : W3.cell? ⟨w.heap.size, 0, none⟩ = some (.slice oT nT cT) ∧ W3.cell? ⟨w.heap.size, 1, none⟩ = some (.slice oS nS cS) := ⟨k3.cell 0, k3.cell 1⟩
    have K3 := Lib.hid k3
    have hw3 : w.heap.size < W3.heap.size := k3.lt
    clear k3 K2 g3
    go_wp2_with fail
    refine (own_any oT oS nT cT nS cS T S W3 HLT.out HLS.out (by omega) (by omega) (AT.out.later bb3) (AS.out.later bb3)).mono ?_
    rintro e W4 ⟨vT, vS, rfl, oT4, oS4, b4⟩
    have hTl : T.length ≤ 40 := by have := HLT.out; omega
    have hSl : S.length ≤ 128 := by have := HLS.out; omega
    obtain ⟨o1, x1, rfl⟩ := oT4.shape
    obtain ⟨o2, x2, rfl⟩ := oS4.shape
    rw [List.length_map] at oT4 oS4
    rw [List.length_map, List.length_map]
    have hPW : PWt W3.heap.size W4.heap.size W3 (.slice o1 T.length x1) (.slice o2 S.length x2) (.slice o1 T.length x1) (.slice none 0 0) (.slice none 0 0) T [] S [] (W4.alloc (.cells #[.slice o1 T.length x1, .slice o2 S.length x2] 25)) :=
      ⟨Blk.new _ _ _, oT4.alloc _, oS4.alloc _, oT4.alloc _, Ow.nil _ _ _, Ow.nil _ _ _, by simp [Value.ownBlock], by simp [Value.ownBlock], b4.alloc b4.size _⟩
    have hB4 : W3.heap.size ≤ W4.heap.size := b4.size
    clear oT4 oS4 c0 c1
    go_upto_region 6 with (fail)
    obtain ⟨W5, hW5⟩ : ∃ W5, W5 = W4.alloc (.cells #[.slice o1 T.length x1, .slice o2 S.length x2] 25) := ⟨_, rfl⟩
    have hB5 : W4.heap.size < W5.heap.size := by rw [hW5]; simp
    rw [← hW5] at hPW ⊢
    clear hW5 b4
    obtain ⟨b5, hb5'⟩ : ∃ b5, b5 = W4.heap.size := ⟨_, rfl⟩
    rw [← hb5'] at hPW hB4 hB5 ⊢
    clear hb5'
    by_cases hg : Kit.Good hsh T S
    · have HG := Lib.hid hg
      have HPW := Lib.hid hPW
      obtain ⟨c0, c1⟩ : W5.cell? ⟨b5, 0, none⟩ = _ ∧ W5.cell? ⟨b5, 1, none⟩ = _ := ⟨hPW.kb.cell 0, hPW.kb.cell 1⟩
      simp only [List.getElem?_toArray, List.getElem?_cons_zero, List.getElem?_cons_succ] at c0 c1
      clear hPW hg
      go_wp2_with fail
      refine (right_any _ _ T S W5 HPW.out.oT.sl HPW.out.oS.sl (by omega) (by omega) HZ.out true ⟨fun _ => HG.out, fun _ => rfl⟩).mono ?_
      rintro e W6 ⟨rfl, g6⟩
      have HPW6 := Lib.hid (HPW.out.later g6.below (by omega))
      obtain ⟨c0, c1⟩ : W6.cell? ⟨b5, 0, none⟩ = _ ∧ W6.cell? ⟨b5, 1, none⟩ = _ := ⟨HPW6.out.kb.cell 0, HPW6.out.kb.cell 1⟩
      simp only [List.getElem?_toArray, List.getElem?_cons_zero, List.getElem?_cons_succ] at c0 c1
      have hB6 : b5 < W6.heap.size := Nat.lt_of_lt_of_le hB5 g6.below.size
      have hpq : PQ T tx 0 T S [] := ⟨HG.out, by omega, by omega, HZ.out, by simp [cuts, allL], by simp⟩
      have HPQ := Lib.hid hpq
      clear HPW g6 hpq
      go_upto_block 0 with fail
      clear c0 c1
      go_cut [7, 8, 9, 37] (fun v7 v8 v9 _ wx => ∃ k Tk Sk nk vT vS, Hid (PQ T tx k Tk Sk nk) ∧ Hid (PWt W3.heap.size b5 W3 vT vS v7 v8 v9 Tk (cuts 12 tx k) Sk nk wx))
      case first =>
        go_wp2
        go_loopw [7, 8, 9, 10, 11, 12, 13, 14, 15, 16, 17, 18, 19, 20, 37] (fun v7 v8 v9 _ _ _ _ _ _ _ _ _ _ _ i wr => ∃ k Tk Sk nk vT vS, k ≤ nX ∧ k ≤ 12 ∧ i = .int .i64 ((k : Nat) : Int) ∧ Hid (PQ T tx k Tk Sk nk) ∧ Hid (PWt W3.heap.size b5 W3 vT vS v7 v8 v9 Tk (cuts 12 tx k) Sk nk wr)) (fun _ _ _ _ _ _ _ _ _ _ _ _ _ _ i _ => nX - (intOf i).toNat)
        case atStart => exact ⟨0, T, S, [], _, _, Nat.zero_le _, by omega, rfl, HPQ, HPW6⟩
        case round =>
          obtain ⟨k, Tk, Sk, nk, vT, vS, hk, hk12, rfl, HQ, HP⟩ := hrel
          clear HPW6 HPQ
          by_cases hkn : k < nX
          · have hkl : k < tx.length := by have := HLX.out; omega
            rcases AX.out with ⟨_, h, _⟩ | ⟨a, rfl, hcX⟩
            · have : tx = [] := by simpa using h
              rw [this] at hkl; simp at hkl
            · have bbr : Below w.heap.size w wr := bb3.trans (HP.out.low.mono bb3.size)
              have d := (bbr.cell (World.block_lt_of_cell? _ _ (hcX k (by simpa using hkl)))).trans (hcX k (by simpa using hkl))
              rw [List.getElem_map] at d
              have hsz := HZX.out _ (List.getElem_mem hkl)
              have hsu : k < 12 → cuts 12 tx (k + 1) = cuts 12 tx k ++ [cuts.cutS' tx[k]] := cuts_succ hkl
              obtain ⟨s, hs⟩ : ∃ s, s = tx[k] := ⟨_, rfl⟩
              rw [← hs] at d hsz hsu
              have HSU := Lib.hid hsu
              clear hs hsu hcX bbr
              by_cases h12 : k = 12
              · have h12' : ((k : Int) == 12) = true := by simp; omega
                clear h12
                go_wp2
                go_meet
                exact ⟨k, Tk, Sk, nk, vT, vS, HQ, HP⟩
              · have h12' : ((k : Int) == 12) = false := by simp; omega
                have hk12' : k < 12 := by omega
                clear h12 hk12
                have hctr := cut_any s hsz
                rw [cutS_is] at hctr
                have hs60 := cutS_size s
                rw [cutS_is] at hs60
                have e1 := HSU.out hk12'
                have HE1 := Lib.hid e1
                obtain ⟨s', hs'⟩ : ∃ s', s' = cuts.cutS' s := ⟨_, rfl⟩
                rw [← hs'] at hctr HE1 hs60
                clear hs' e1 HSU
                have hlen := cuts_len 12 tx k
                have hTkl : Tk.length ≤ 52 := by have := HQ.out.tl; omega
                have hSkl := HQ.out.sl
                have hBr : b5 < wr.heap.size := HP.out.kb.lt
                have HPA := Lib.hid (HP.out.later (Below.refl _ _ |>.alloc (Nat.le_refl _) (.cells #[.string s'] 9)) (by omega))
                obtain ⟨oT1, xT1, rfl⟩ := HP.out.oT.shape
                obtain ⟨oS1, xS1, rfl⟩ := HP.out.oS.shape
                rw [List.length_map] at HP HPA
                rw [List.length_map] at HP HPA
                obtain ⟨nTk, hnTk⟩ : ∃ q, q = Tk.length := ⟨_, rfl⟩
                obtain ⟨nSk, hnSk⟩ : ∃ q, q = Sk.length := ⟨_, rfl⟩
                rw [← hnTk, ← hnSk] at HP HPA
                have HNT := Lib.hid hnTk
                have HNS := Lib.hid hnSk
                clear hnTk hnSk
                go_wp2_with (first | (go_at_call 13; refine (hctr _).mono ?_; rintro e w' ⟨rfl, rfl⟩) | (at_builtin; refine wpList_append_sl2 rfl _ _ 22 rfl W3.heap.size 9 i0 (.string ⟨#[]⟩) 16 Try.underlying22 hi hz0 hz1 hz2 rfl _ _ rfl HPA.out.oL _ [.string s'] rfl ?qa ?qf ?qb ?qc ?qd ?qe ?_))
                case qa => exact Sl.of_blk (Blk.new _ _ _) (by simp) (by simp) (by simp)
                case qf => simp
                case qb => simp [Value.oneCell']
                case qc => simp; omega
                case qd => simp; omega
                case qe => simp; omega
                rw [show (cuts 12 tx k).map Value.string ++ [Value.string s'] = (cuts 12 tx (k + 1)).map Value.string by rw [HE1.out]; simp]
                intro v2 w2 hO2 hG2 hW2
                have hP2 := HPA.out.append hO2 hG2 (by simpa using hW2) (by decide) (by decide) (by simp; omega)
                have hB2 : b5 < w2.heap.size := hP2.kb.lt
                have HP2 := Lib.hid hP2
                obtain ⟨c0, c1⟩ : w2.cell? ⟨b5, 0, none⟩ = _ ∧ w2.cell? ⟨b5, 1, none⟩ = _ := ⟨hP2.kb.cell 0, hP2.kb.cell 1⟩
                simp only [List.getElem?_toArray, List.getElem?_cons_zero, List.getElem?_cons_succ] at c0 c1
                clear hO2 hG2 hW2 HPA HP hP2
                go_wp2_with fail
                refine (own_sl _ _ Tk Sk w2 HP2.out.oT.sl HP2.out.oS.sl (by omega) (by omega)).mono ?_
                rintro e w3 ⟨vP, vQ, rfl, oP, oQ, b3⟩
                obtain ⟨oP1, xP1, rfl⟩ := oP.shape
                obtain ⟨oQ1, xQ1, rfl⟩ := oQ.shape
                rw [List.length_map, ← HNT.out] at oP
                rw [List.length_map, ← HNS.out] at oQ
                rw [List.length_map, List.length_map, ← HNT.out, ← HNS.out]
                have hTW := TB.new (tt := 25) oP.sl oQ.sl
                have hP3 := HP2.out.later (b3.alloc b3.size (.cells #[.slice oP1 nTk xP1, .slice oQ1 nSk xQ1] 25)) (by omega)
                obtain ⟨b12, hb12⟩ : ∃ b12, b12 = w3.heap.size := ⟨_, rfl⟩
                obtain ⟨Wp, hWp⟩ : ∃ Wp, Wp = w3.alloc (.cells #[.slice oP1 nTk xP1, .slice oQ1 nSk xQ1] 25) := ⟨_, rfl⟩
                rw [← hWp] at hP3
                rw [← hWp, ← hb12] at hTW
                have HTW := Lib.hid hTW
                have HPp := Lib.hid hP3
                clear oP oQ b3 HP2 c0 c1 hTW hP3
                go_upto_region 16 with (fail)
                rw [← hWp, ← hb12]
                clear hWp hb12 d
                have hs63 : s'.size ≤ 9223372036854775807 := by omega
                have hBp : b5 < Wp.heap.size := HPp.out.kb.lt
                obtain ⟨c0, c1⟩ : Wp.cell? ⟨b5, 0, none⟩ = _ ∧ Wp.cell? ⟨b5, 1, none⟩ = _ := ⟨HPp.out.kb.cell 0, HPp.out.kb.cell 1⟩
                simp only [List.getElem?_toArray, List.getElem?_cons_zero, List.getElem?_cons_succ] at c0 c1
                have bp : Below Wp.heap.size Wp Wp.drew := (Below.refl _ _).drew
                go_cut [13, 14, 15] from 51 to 58 (fun s13 s14 s15 wc => ∃ b13 T' p S' oA xA oB xB nA nB, s13 = .pointer (some ⟨b13, 0, none⟩) ∧ s14 = .int .i64 ((p : Nat) : Int) ∧ s15 = .int .i64 0 ∧ PutT Tk s' T' p ∧ Kit.Good hsh T' S' ∧ S'.length ≤ 4096 ∧ nA = T'.length ∧ nB = S'.length ∧
                  Blk wc b13 #[.slice oA nA xA, .slice oB nB xB] 25 ∧ Ow 9 Wp.heap.size wc (.slice oA nA xA) (T'.map Value.string) ∧ Ow 3 Wp.heap.size wc (.slice oB nB xB) (S'.map (Value.int .i64)) ∧ Below Wp.heap.size Wp wc)
                case first =>
                  go_region_law (first
                    | (go_simp; go_at_call 13; (with_reducible refine (hctr _).mono ?_); rintro e wa ⟨rfl, rfl⟩)
                    | (go_simp; go_at_call 20; (with_reducible refine (put_fit _ _ Tk Sk s' hs63 _ (by first | exact HPp.out.oT.sl.drew | exact (HPp.out.oT.sl.alloc _).drew) (by first | exact HPp.out.oS.sl.drew | exact (HPp.out.oS.sl.alloc _).drew) HQ.out.sl (by omega) HQ.out.size HQ.out.good Wp.heap.size (by simp)).mono ?_); rintro e wb ⟨T', p, S', oA, xA, oB, xB, nA, nB, rfl, hpt, hg', hl', rfl, rfl, oa, ob, hlow⟩
                       have yb : Below Wp.heap.size Wp wb := (by first | exact bp.trans (hlow.mono (by simp)) | exact (bp.alloc (by simp) _).trans (hlow.mono (by simp)))
                       (first | (have kz : Blk wb _ #[.slice none 0 0, .slice none 0 0] 25 := (Blk.new Wp _ _).drew.later hlow) | skip)
                       (first | (obtain ⟨z0, z1, z2, z3, z4⟩ : _ ∧ _ ∧ _ ∧ _ ∧ _ := ⟨kz.cell 0, kz.cell 1, kz.frozen 0, kz.frozen 1, kz.lt⟩; simp only [List.getElem?_toArray, List.getElem?_cons_zero, List.getElem?_cons_succ] at z0 z1) | skip)))
                  all_goals
                    go_wp2_with fail
                    go_meet
                    first
                      | (have kR := (kz.set 0 (.slice oA T'.length xA)).set 1 (.slice oB S'.length xB)
                         simp only [List.setIfInBounds_toArray, List.set_cons_zero, List.set_cons_succ] at kR
                         exact ⟨_, T', p, S', oA, xA, oB, xB, T'.length, S'.length, rfl, rfl, rfl, hpt, hg', hl', rfl, rfl, kR, oa.same fun g hg => (Below.heap_setCell _ _ _ _ (by rintro rfl; exact oa.ne_blk kz (by decide) hg)).trans (Below.heap_setCell _ _ _ _ (by rintro rfl; exact oa.ne_blk kz (by decide) hg)), ob.same fun g hg => (Below.heap_setCell _ _ _ _ (by rintro rfl; exact ob.ne_blk kz (by decide) hg)).trans (Below.heap_setCell _ _ _ _ (by rintro rfl; exact ob.ne_blk kz (by decide) hg)), (yb.setCell (Nat.le_refl _) _).setCell (Nat.le_refl _) _⟩)
                      | exact ⟨_, T', p, S', oA, xA, oB, xB, T'.length, S'.length, rfl, rfl, rfl, hpt, hg', hl', rfl, rfl, Blk.new _ _ _, oa.alloc _, ob.alloc _, yb.alloc yb.size _⟩
                case rest =>
                  obtain ⟨b13, T', p, S', oA, xA, oB, xB, nA, nB, rfl, rfl, rfl, hpt, hg', hl', hnA, hnB, kg, oa, ob, hlow⟩ := hcut
                  have hT'l : T'.length ≤ 53 := by have := hpt.len; omega
                  have hz' := hpt.sizes HQ.out.size hs63
                  have hpq := HQ.out.step hs60 HE1.out hpt hg' hl'
                  have HPQ' := Lib.hid hpq
                  have HPT := Lib.hid hpt
                  have HG' := Lib.hid hg'
                  have HZ' := Lib.hid hz'
                  have HNA := Lib.hid hnA
                  have HNB := Lib.hid hnB
                  have hBc : Wp.heap.size ≤ wc.heap.size := hlow.size
                  have HPc := Lib.hid (HPp.out.later hlow (by omega))
                  have HKG := Lib.hid kg
                  have HOa := Lib.hid oa
                  have HOb := Lib.hid ob
                  have HLOW := Lib.hid hlow
                  clear hpq hpt hg' hz' hnA hnB kg oa ob hlow c0 c1 bp
                  go_wp2_with (go_at_call 13; refine (hctr _).mono ?_; rintro e w' ⟨rfl, rfl⟩)
                  refine (rput_any W3.heap.size _ Tk s' _ HPc.out.oA (by omega) (by omega) T' p HPT.out).mono ?_
                  rintro e wd ⟨vA', rfl, oA', hAf, bd⟩
                  have HAF : Hid (vA' = u7 ∨ ∀ g, vA'.ownBlock = some g → Wp.heap.size ≤ g) := Lib.hid (hAf.imp id fun h g hg => Nat.le_trans hBc (h g hg))
                  have hr : RWt Wp.heap.size W3.heap.size b13 Wp (.slice oA nA xA) (.slice oB nB xB) vA' T' S' wd := ⟨HKG.out.later bd, HOa.out.later bd, HOb.out.later bd, oA', HLOW.out.trans (bd.mono hBc), Nat.le_trans hBc bd.size⟩
                  have HR := Lib.hid hr
                  obtain ⟨g0, g1⟩ := hr.cells
                  have hpp : ((p : Int) != (p : Int)) = false := by simp
                  clear hAf oA' bd HKG HOa HOb HLOW HPc hr
                  go_wp2_with fail
                  refine (right_any _ _ T' S' wd HR.out.oa.sl HR.out.ob.sl (by omega) (by omega) HZ'.out true ⟨fun _ => HG'.out, fun _ => rfl⟩).mono ?_
                  rintro e we ⟨rfl, ge⟩
                  have HRe := Lib.hid (HR.out.later ge.below)
                  obtain ⟨g0, g1⟩ := HRe.out.cells
                  clear HR ge
                  go_wp2_with fail
                  refine (equals_sl _ _ T' T' we HRe.out.oa.sl HRe.out.oA.sl).mono ?_
                  rw [decide_eq_true (rfl : T' = T')]
                  rintro e wf ⟨rfl, gf⟩
                  have HRf := Lib.hid (HRe.out.later (Gr.of_dr gf).below)
                  clear HRe gf g0 g1
                  obtain ⟨c0, c1⟩ := (HPp.out.later HRf.out.low (by omega)).cells
                  obtain ⟨d0, d1⟩ := (HTW.out.later HRf.out.low).cells
                  go_wp2_with fail
                  refine (same_sl _ _ _ _ Tk Sk wf (HPp.out.later HRf.out.low (by omega)).oT.sl (HPp.out.later HRf.out.low (by omega)).oS.sl (HTW.out.later HRf.out.low).sT (HTW.out.later HRf.out.low).sS).mono ?_
                  rintro e wg ⟨rfl, gg⟩
                  have HRg := Lib.hid (HRf.out.later gg.below)
                  clear HRf gg c0 c1 d0 d1
                  obtain ⟨g0, g1⟩ := HRg.out.cells
                  go_wp2_with fail
                  refine (own_sl _ _ T' S' wg HRg.out.oa.sl HRg.out.ob.sl (by omega) (by omega)).mono ?_
                  rintro e wh ⟨vU, vV, rfl, oU, oV, bh⟩
                  obtain ⟨oU1, xU1, rfl⟩ := oU.shape
                  obtain ⟨oV1, xV1, rfl⟩ := oV.shape
                  rw [List.length_map, ← HNA.out] at oU
                  rw [List.length_map, ← HNB.out] at oV
                  rw [List.length_map, List.length_map, ← HNA.out, ← HNB.out]
                  have hRh := HRg.out.later bh
                  have hzw : ZWt Wp.heap.size wg.heap.size W3.heap.size b13 wh.heap.size Wp (.slice oA nA xA) (.slice oB nB xB) (.slice oU1 nA xU1) (.slice oV1 nB xV1) vA' T' S' nB (wh.alloc (.cells #[.slice oU1 nA xU1, .slice oV1 nB xV1] 25)) :=
                    ⟨hRh.kg.alloc _, ⟨S', HNB.out.symm, hRh.ob.alloc _⟩, Blk.new _ _ _, oU.alloc _, oV.alloc _, hRh.oA.alloc _, fun g hg => (HRg.out.ob.lt g hg).2, hRh.low.alloc hRh.size _⟩
                  have hBg : Wp.heap.size ≤ wg.heap.size := HRg.out.size
                  have hBz : wg.heap.size ≤ wh.heap.size := bh.size
                  obtain ⟨b19, hb19⟩ : ∃ b, b = wh.heap.size := ⟨_, rfl⟩
                  obtain ⟨Wz, hWz⟩ : ∃ W, W = wh.alloc (.cells #[.slice oU1 nA xU1, .slice oV1 nB xV1] 25) := ⟨_, rfl⟩
                  rw [← hWz, ← hb19] at hzw
                  have HZ0 := Lib.hid hzw
                  clear hRh hzw oU oV bh HRg g0 g1
                  go_upto_region 24 with (fail)
                  rw [← hWz, ← hb19]
                  clear hWz hb19
                  have hnBl : nB ≤ 4096 := by have := HNB.out; omega
                  obtain ⟨g0, g1, -, -⟩ := HZ0.out.cells
                  go_wp2
                  clear g0 g1
                  go_loopw [20, 115] (fun _ i wz => ∃ j : Nat, j ≤ nB ∧ i = .int .i64 (j : Int) ∧ Hid (ZWt Wp.heap.size wg.heap.size W3.heap.size b13 b19 Wp (.slice oA nA xA) (.slice oB nB xB) (.slice oU1 nA xU1) (.slice oV1 nB xV1) vA' T' S' nB wz)) (fun _ i _ => nB - (intOf i).toNat)
                  case atStart => exact ⟨0, Nat.zero_le _, rfl, HZ0⟩
                  case round =>
                    obtain ⟨j, hj, rfl, HZr⟩ := hrel
                    by_cases hjn : j < nB
                    · obtain ⟨g, rfl, hgl, ⟨y, d3⟩, d4, hst⟩ := HZr.out.store (p := j) hjn (by decide) (by decide)
                      have HST := Lib.hid hst
                      obtain ⟨g0, g1, -, -⟩ := HZr.out.cells
                      clear hst
                      go_wp2
                      go_roundw
                      case rel => exact ⟨j + 1, by omega, by go_num, Lib.hid (HST.out 0)⟩
                      case measure => simp [intOf]; omega
                    · obtain ⟨c0, c1⟩ := (HPp.out.later HZr.out.low (by omega)).cells
                      obtain ⟨d0, d1⟩ := (HTW.out.later HZr.out.low).cells
                      go_wp2_with fail
                      refine (same_sl _ _ _ _ Tk Sk wr (HPp.out.later HZr.out.low (by omega)).oT.sl (HPp.out.later HZr.out.low (by omega)).oS.sl (HTW.out.later HZr.out.low).sT (HTW.out.later HZr.out.low).sS).mono ?_
                      rintro e wj ⟨rfl, gj⟩
                      have hBr2 : Wp.heap.size ≤ wr.heap.size := HZr.out.low.size
                      have HZj := Lib.hid (HZr.out.later gj.below hBr2)
                      have hBj : Wp.heap.size ≤ wj.heap.size := HZj.out.low.size
                      have HPj := Lib.hid (HPp.out.later HZj.out.low (by omega))
                      clear HZr gj c0 c1 d0 d1 hBr2
                      obtain ⟨-, -, n0, n1⟩ := HZj.out.cells
                      have hnl := HQ.out.nl
                      have hb5j : b5 < wj.heap.size := by omega
                      have hb19 : b19 < wj.heap.size := HZj.out.kn.lt
                      have hf0 : wj.frozen? ⟨b5, 0, none⟩ = false := HPj.out.kb.frozen 0
                      have hf1 : wj.frozen? ⟨b5, 1, none⟩ = false := HPj.out.kb.frozen 1
                      obtain ⟨c0, c1⟩ := HPj.out.cells
                      go_wp2
                      have bj : Below wj.heap.size wj (wj.alloc (.cells #[.int .i64 (p : Int)] 3)).drew := ((Below.refl _ _).alloc (Nat.le_refl _) _).drew
                      have HBJ := Lib.hid bj
                      clear bj
                      go_region_law ((refine step_append_sl2 rfl _ _ 23 (by rfl) W3.heap.size 3 i1 (.int .i64 0) 8 Try.underlying23 hi' hz0' hz1' hz2' rfl _ _ (by rfl) (HPj.out.oN.later HBJ.out) _ [.int .i64 (p : Int)] (by rfl) (by first | exact (Sl.of_blk (Blk.new _ _ _) (by simp) (by simp) (by simp)) | exact (Sl.of_blk (Blk.new _ _ _).drew (by simp) (by simp) (by simp))) (by simp) (by simp [Value.oneCell']) (by simp; omega) (by simp; omega) (by simp; omega) ?_); intro v3 w3 hO3 hG3 hW3; obtain ⟨kb3, kn3⟩ := PW.mid hG3 HPj.out HZj.out HBJ.out (by decide); obtain ⟨f0, f1, hl3, n0, n1, c0, c1⟩ : _ ∧ _ ∧ _ ∧ _ ∧ _ ∧ _ ∧ _ := ⟨kb3.frozen 0, kb3.frozen 1, kb3.lt, kn3.cell 0, kn3.cell 1, kb3.cell 0, kb3.cell 1⟩; simp only [List.getElem?_toArray, List.getElem?_cons_zero, List.getElem?_cons_succ] at n0 n1 c0 c1)
                      all_goals
                        have hNX : Hid (PWt W3.heap.size b5 W3 (.slice oU1 nA xU1) (.slice oV1 nB xV1) vA' v2 v3 T' (cuts 12 tx (k + 1)) S' (nk ++ [(p : Int)]) ((w3.setCell ⟨b5, 0, none⟩ (.slice oU1 nA xU1)).setCell ⟨b5, 1, none⟩ (.slice oV1 nB xV1))) :=
                          Lib.hid (PW.next hG3 (by rw [List.map_append]; exact hO3) HPj.out HZj.out HBJ.out (by decide) (by decide) (by decide) HAF.out (fun g hg => (HPp.out.oL.lt g hg).2) (fun g hg => (HPp.out.oN.lt g hg).2) hBg hB4 (by omega))
                        clear kb3 kn3 hO3 hG3 hW3
                        go_wp2
                        go_roundw
                        case rel => exact ⟨k + 1, T', S', nk ++ [(p : Int)], _, _, by omega, by omega, by go_num, HPQ', hNX⟩
                        case measure => simp [intOf]; omega
          · go_wp2
            go_meet
            exact ⟨k, Tk, Sk, nk, vT, vS, HQ, HP⟩
      case rest =>
        obtain ⟨k, Tk, Sk, nk, vT, vS, HQ, HP⟩ := hcut
        clear c0 c1 HPW6 HPQ
        have bbc : Below w.heap.size w wc := bb3.trans (HP.out.low.mono bb3.size)
        obtain ⟨c0, c1⟩ : wc.cell? ⟨w.heap.size, 0, none⟩ = some (.slice oT nT cT) ∧ wc.cell? ⟨w.heap.size, 1, none⟩ = some (.slice oS nS cS) := ⟨(K3.out.later HP.out.low).cell 0, (K3.out.later HP.out.low).cell 1⟩
        go_wp2_with fail
        refine (own_any oT oS nT cT nS cS T S wc HLT.out HLS.out (by omega) (by omega) (AT.out.later bbc) (AS.out.later bbc)).mono ?_
        rintro e wd ⟨vX, vY, rfl, oX', oY', bd⟩
        have bbd := bbc.trans (bd.mono bbc.size)
        have hBc : W3.heap.size ≤ wc.heap.size := HP.out.low.size
        have HPd := Lib.hid (HP.out.later bd hBc)
        obtain ⟨o7, x7, rfl⟩ := oX'.shape
        obtain ⟨o8, x8, rfl⟩ := oY'.shape
        rw [List.length_map] at oX' oY'
        rw [List.length_map, List.length_map]
        have hll := cuts_len 12 tx k
        clear c0 c1 HP
        go_wp2_with fail
        refine (all_fit _ _ _ T (cuts 12 tx k) S wd oX'.sl oY'.sl HPd.out.oL.sl (by omega) (by omega) HZ.out (fun s hs => by have := cuts_size 12 tx k s hs; omega) HG.out Tk nk HQ.out.all).mono ?_
        rintro e we ⟨a1, y1, a2, y2, a3, y3, m2, rfl, ha⟩
        have bbe := bbd.trans (ha.low.mono bbd.size)
        have hBd : W3.heap.size ≤ wd.heap.size := Nat.le_trans hBc bd.size
        have hPe := HPd.out.later ha.low hBd
        have hBe : W3.heap.size ≤ we.heap.size := Nat.le_trans hBd ha.low.size
        obtain ⟨S5, p1, p2, p3, p4⟩ := ha.ex
        have hTC := TB.new (tt := 25) p1.sl p2.sl
        obtain ⟨lk, hlk⟩ : ∃ q, q = (cuts 12 tx k).length := ⟨_, rfl⟩
        obtain ⟨nTk, hnTk⟩ : ∃ q, q = Tk.length := ⟨_, rfl⟩
        rw [← hlk] at ha hll ⊢
        rw [← hnTk] at ha hTC ⊢
        obtain ⟨W6', hW6⟩ : ∃ W6, W6 = we.alloc (.cells #[.slice a1 nTk y1, .slice a2 m2 y2] 25) := ⟨_, rfl⟩
        have g6 : Gr we W6' := by rw [hW6]; exact Gr.alloc _ _
        obtain ⟨b6, hb6⟩ : ∃ b6, b6 = we.heap.size := ⟨_, rfl⟩
        have bbf := below_gr bbe g6 bbe.size
        rw [← hW6, ← hb6] at hTC
        have HTC := Lib.hid hTC
        have HN := Lib.hid (ha.oN.sl.later g6.below)
        have HPf := Lib.hid (hPe.later g6.below hBe)
        have hGE := Lib.hid p3
        have hS5 : S5.length ≤ 4096 := by omega
        have hTkl : Tk.length ≤ 1024 := p3.sz.1
        clear hTC ha p1 p2 p3 p4 hlk hnTk g6 hPe HPd oX' oY' bd
        go_upto_region 34 with (fail)
        rw [← hW6, ← hb6]
        clear hW6 hb6
        obtain ⟨c0, c1⟩ := HTC.out.cells
        go_wp2_with fail
        refine (equali_sl _ _ nk nk W6' HN.out HPf.out.oN.sl).mono ?_
        rw [decide_eq_true (rfl : nk = nk)]
        rintro e w7 ⟨rfl, g7⟩
        have hB6' : W3.heap.size ≤ W6'.heap.size := HPf.out.low.size
        have HTC7 := Lib.hid (HTC.out.later (Gr.of_dr g7).below)
        have HP7 := Lib.hid (HPf.out.later (Gr.of_dr g7).below hB6')
        have bb7 := below_gr bbf (Gr.of_dr g7) bbf.size
        clear c0 c1 HTC HPf HN g7
        obtain ⟨c0, c1⟩ := HTC7.out.cells
        go_wp2_with fail
        refine (right_any _ _ Tk S5 w7 HTC7.out.sT HTC7.out.sS (by omega) (by omega) HQ.out.size true ⟨fun _ => hGE.out, fun _ => rfl⟩).mono ?_
        rintro e w8 ⟨rfl, g8⟩
        have hB7' : W3.heap.size ≤ w7.heap.size := HP7.out.low.size
        have HTC8 := Lib.hid (HTC7.out.later g8.below)
        have HP8 := Lib.hid (HP7.out.later g8.below hB7')
        have bb8 := below_gr bb7 g8 bb7.size
        clear c0 c1 HTC7 HP7 g8
        obtain ⟨c0, c1⟩ := HTC8.out.cells
        go_wp2_with fail
        refine (equals_sl _ _ Tk Tk w8 HTC8.out.sT HP8.out.oA.sl).mono ?_
        rw [decide_eq_true (rfl : Tk = Tk)]
        rintro e w9 ⟨rfl, g9⟩
        have bb9 := below_gr bb8 (Gr.of_dr g9) bb8.size
        go_wp2
        go_ret
        exact ⟨rfl, bb9⟩
    · have HG := Lib.hid hg
      have HPW := Lib.hid hPW
      obtain ⟨c0, c1⟩ : W5.cell? ⟨b5, 0, none⟩ = _ ∧ W5.cell? ⟨b5, 1, none⟩ = _ := hPW.cells
      clear hPW hg
      go_wp2_with fail
      refine (right_any _ _ T S W5 HPW.out.oT.sl HPW.out.oS.sl (by omega) (by omega) HZ.out false ⟨fun h => absurd h (by decide), fun h => (HG.out h).elim⟩).mono ?_
      rintro e W6 ⟨rfl, g6⟩
      have HPW6 := Lib.hid (HPW.out.later g6.below (by omega))
      obtain ⟨c0, c1⟩ := HPW6.out.cells
      have hB6 : b5 < W6.heap.size := Nat.lt_of_lt_of_le hB5 g6.below.size
      obtain ⟨nT', hnT'⟩ : ∃ q, q = T.length := ⟨_, rfl⟩
      obtain ⟨nS', hnS'⟩ : ∃ q, q = S.length := ⟨_, rfl⟩
      rw [← hnT'] at HPW6 c0 ⊢
      rw [← hnS'] at HPW6 c1 ⊢
      clear HPW g6 hnT' hnS'
      go_upto_block 0 with fail
      clear c0 c1
      go_cut [8, 37] (fun v8 _ wx => ∃ k, Hid (PWt W3.heap.size b5 W3 (.slice o1 nT' x1) (.slice o2 nS' x2) (.slice o1 nT' x1) v8 (.slice none 0 0) T (cuts 12 tx k) S [] wx))
      case first =>
        go_wp2
        go_loopw [8, 10, 11, 12, 13, 14, 15, 16, 17, 18, 19, 20, 37] (fun v8 _ _ _ _ _ _ _ _ _ _ _ i wr => ∃ k : Nat, k ≤ nX ∧ k ≤ 12 ∧ i = .int .i64 (k : Int) ∧ Hid (PWt W3.heap.size b5 W3 (.slice o1 nT' x1) (.slice o2 nS' x2) (.slice o1 nT' x1) v8 (.slice none 0 0) T (cuts 12 tx k) S [] wr)) (fun _ _ _ _ _ _ _ _ _ _ _ _ i _ => nX - (intOf i).toNat)
        case atStart => exact ⟨0, Nat.zero_le _, by omega, rfl, HPW6⟩
        case round =>
          obtain ⟨k, hk, hk12, rfl, HP⟩ := hrel
          clear HPW6
          by_cases hkn : k < nX
          · have hkl : k < tx.length := by have := HLX.out; omega
            rcases AX.out with ⟨_, h, _⟩ | ⟨a, rfl, hcX⟩
            · have : tx = [] := by simpa using h
              rw [this] at hkl; simp at hkl
            · have bbr : Below w.heap.size w wr := bb3.trans (HP.out.low.mono bb3.size)
              have d := (bbr.cell (World.block_lt_of_cell? _ _ (hcX k (by simpa using hkl)))).trans (hcX k (by simpa using hkl))
              rw [List.getElem_map] at d
              have hsz := HZX.out _ (List.getElem_mem hkl)
              have hsu : k < 12 → cuts 12 tx (k + 1) = cuts 12 tx k ++ [cuts.cutS' tx[k]] := cuts_succ hkl
              obtain ⟨s, hs⟩ : ∃ s, s = tx[k] := ⟨_, rfl⟩
              rw [← hs] at d hsz hsu
              have HSU := Lib.hid hsu
              clear hs hsu hcX bbr
              by_cases h12 : k = 12
              · have h12' : ((k : Int) == 12) = true := by simp; omega
                clear h12
                go_wp2
                go_meet
                exact ⟨k, HP⟩
              · have h12' : ((k : Int) == 12) = false := by simp; omega
                have hk12' : k < 12 := by omega
                clear h12 hk12
                have hctr := cut_any s hsz
                rw [cutS_is] at hctr
                have hs60 := cutS_size s
                rw [cutS_is] at hs60
                have e1 := HSU.out hk12'
                have HE1 := Lib.hid e1
                obtain ⟨s', hs'⟩ : ∃ s', s' = cuts.cutS' s := ⟨_, rfl⟩
                rw [← hs'] at hctr HE1 hs60
                clear hs' e1 HSU
                have hlen := cuts_len 12 tx k
                have hBr : b5 < wr.heap.size := HP.out.kb.lt
                have HPA := Lib.hid (HP.out.later (Below.refl _ _ |>.alloc (Nat.le_refl _) (.cells #[.string s'] 9)) (by omega))
                go_wp2_with (first | (go_at_call 13; refine (hctr _).mono ?_; rintro e w' ⟨rfl, rfl⟩) | (at_builtin; refine wpList_append_sl2 rfl _ _ 22 rfl W3.heap.size 9 i0 (.string ⟨#[]⟩) 16 Try.underlying22 hi hz0 hz1 hz2 rfl _ _ rfl HPA.out.oL _ [.string s'] rfl ?qa ?qf ?qb ?qc ?qd ?qe ?_))
                case qa => exact Sl.of_blk (Blk.new _ _ _) (by simp) (by simp) (by simp)
                case qf => simp
                case qb => simp [Value.oneCell']
                case qc => simp; omega
                case qd => simp; omega
                case qe => simp; omega
                rw [show (cuts 12 tx k).map Value.string ++ [Value.string s'] = (cuts 12 tx (k + 1)).map Value.string by rw [HE1.out]; simp]
                intro v2 w2 hO2 hG2 hW2
                have hP2 := HPA.out.append hO2 hG2 (by simpa using hW2) (by decide) (by decide) (by simp; omega)
                have hB2 : b5 < w2.heap.size := hP2.kb.lt
                have HP2 := Lib.hid hP2
                obtain ⟨c0, c1⟩ := hP2.cells
                clear hO2 hG2 hW2 HPA HP hP2
                go_wp2_with fail
                refine (own_sl _ _ T S w2 HP2.out.oT.sl HP2.out.oS.sl (by omega) (by omega)).mono ?_
                rintro e w3 ⟨vP, vQ, rfl, oP, oQ, b3⟩
                obtain ⟨oP1, xP1, rfl⟩ := oP.shape
                obtain ⟨oQ1, xQ1, rfl⟩ := oQ.shape
                obtain ⟨lP, hlP⟩ : ∃ q, q = (T.map Value.string).length := ⟨_, rfl⟩
                obtain ⟨lQ, hlQ⟩ : ∃ q, q = (S.map (Value.int .i64)).length := ⟨_, rfl⟩
                rw [← hlP, ← hlQ]
                have hP3 := HP2.out.later (b3.alloc b3.size (.cells #[.slice oP1 lP xP1, .slice oQ1 lQ xQ1] 25)) (by omega)
                obtain ⟨b12, hb12⟩ : ∃ b12, b12 = w3.heap.size := ⟨_, rfl⟩
                obtain ⟨Wp, hWp⟩ : ∃ Wp, Wp = w3.alloc (.cells #[.slice oP1 lP xP1, .slice oQ1 lQ xQ1] 25) := ⟨_, rfl⟩
                rw [← hWp] at hP3
                have HPp := Lib.hid hP3
                clear oP oQ b3 HP2 c0 c1 hP3 hlP hlQ
                go_upto_region 16 with (fail)
                rw [← hWp, ← hb12]
                clear hWp hb12 d
                have hs63 : s'.size ≤ 9223372036854775807 := by omega
                have hBp : b5 < Wp.heap.size := HPp.out.kb.lt
                obtain ⟨c0, c1⟩ := HPp.out.cells
                have bp : Below Wp.heap.size Wp Wp.drew := (Below.refl _ _).drew
                go_cut [13, 14, 15] from 51 to 58 (fun s13 s14 s15 wc => ∃ b13, s13 = .pointer (some ⟨b13, 0, none⟩) ∧ s14 = .int .i64 0 ∧ s15 = .int .i64 150 ∧ Blk wc b13 #[.slice none 0 0, .slice none 0 0] 25 ∧ Below Wp.heap.size Wp wc)
                case first =>
                  go_region_law (first
                    | (go_simp; go_at_call 13; (with_reducible refine (hctr _).mono ?_); rintro e wa ⟨rfl, rfl⟩)
                    | (go_simp; go_at_call 20; (with_reducible refine (put_no _ _ T S s' hs63 _ (by first | exact HPp.out.oT.sl.drew | exact (HPp.out.oT.sl.alloc _).drew) (by first | exact HPp.out.oS.sl.drew | exact (HPp.out.oS.sl.alloc _).drew) (by omega) (by omega) HZ.out HG.out).mono ?_); rintro e wb ⟨rfl, hlow⟩
                       have yb : Below Wp.heap.size Wp wb := (by first | exact bp.trans (hlow.mono (by simp)) | exact (bp.alloc (by simp) _).trans (hlow.mono (by simp)))
                       (first | (have kz : Blk wb _ #[.slice none 0 0, .slice none 0 0] 25 := (Blk.new Wp _ _).drew.later hlow) | skip)
                       (first | (obtain ⟨z0, z1, z2, z3, z4⟩ : _ ∧ _ ∧ _ ∧ _ ∧ _ := ⟨kz.cell 0, kz.cell 1, kz.frozen 0, kz.frozen 1, kz.lt⟩; simp only [List.getElem?_toArray, List.getElem?_cons_zero, List.getElem?_cons_succ] at z0 z1) | skip)))
                  all_goals
                    go_wp2_with fail
                    go_meet
                    first
                      | (have kR := (kz.set 0 (.slice none 0 0)).set 1 (.slice none 0 0)
                         simp only [List.setIfInBounds_toArray, List.set_cons_zero, List.set_cons_succ] at kR
                         exact ⟨_, rfl, rfl, rfl, kR, (yb.setCell (Nat.le_refl _) _).setCell (Nat.le_refl _) _⟩)
                      | exact ⟨_, rfl, rfl, rfl, Blk.new _ _ _, yb.alloc yb.size _⟩
                case rest =>
                  obtain ⟨b13, rfl, rfl, rfl, kg, hlow⟩ := hcut
                  have HPc := Lib.hid (HPp.out.later hlow (by omega))
                  obtain ⟨g0, g1⟩ : wc.cell? ⟨b13, 0, none⟩ = some (.slice none 0 0) ∧ wc.cell? ⟨b13, 1, none⟩ = some (.slice none 0 0) := ⟨kg.cell 0, kg.cell 1⟩
                  clear c0 c1 kg hlow bp
                  go_wp2
                  go_roundw
                  case rel => exact ⟨k + 1, by omega, by omega, by go_num, HPc⟩
                  case measure => simp [intOf]; omega
          · go_wp2
            go_meet
            exact ⟨k, HP⟩
      case rest =>
        obtain ⟨k, HP⟩ := hcut
        clear c0 c1 HPW6
        have bbc : Below w.heap.size w wc := bb3.trans (HP.out.low.mono bb3.size)
        obtain ⟨c0, c1⟩ : wc.cell? ⟨w.heap.size, 0, none⟩ = some (.slice oT nT cT) ∧ wc.cell? ⟨w.heap.size, 1, none⟩ = some (.slice oS nS cS) := ⟨(K3.out.later HP.out.low).cell 0, (K3.out.later HP.out.low).cell 1⟩
        go_wp2_with fail
        refine (own_any oT oS nT cT nS cS T S wc HLT.out HLS.out (by omega) (by omega) (AT.out.later bbc) (AS.out.later bbc)).mono ?_
        rintro e wd ⟨vX, vY, rfl, oX', oY', bd⟩
        have bbd := bbc.trans (bd.mono bbc.size)
        obtain ⟨o7, x7, rfl⟩ := oX'.shape
        obtain ⟨o8, x8, rfl⟩ := oY'.shape
        rw [List.length_map] at oX' oY'
        rw [List.length_map, List.length_map]
        obtain ⟨oL, xL, eL⟩ := HP.out.oL.shape
        obtain ⟨lL, hlL⟩ : ∃ q, q = ((cuts 12 tx k).map Value.string).length := ⟨_, rfl⟩
        rw [← hlL] at eL
        clear hlL
        subst eL
        clear c0 c1
        go_wp2_with fail
        refine (all_bad _ _ _ ⟨_, _, _, rfl⟩ T S wd oX'.sl oY'.sl (by omega) (by omega) HZ.out HG.out).mono ?_
        rintro e we ⟨rfl, be⟩
        have bbe := bbd.trans (be.mono bbd.size)
        go_wp2
        go_ret
        exact ⟨rfl, bbe.alloc bbe.size _⟩
end Go.Proofs.Ytfnlegnieilcbaa
