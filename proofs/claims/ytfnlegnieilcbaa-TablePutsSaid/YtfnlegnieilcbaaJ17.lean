/- TableParts: the law's walk. -/
import Derived.Test.YtfnlegnieilcbaaJ16
namespace Go.Proofs.Kit
/-- The first texts, cut. -/
def cuts (m : Nat) (tx : List ByteArray) (k : Nat) : List ByteArray := (tx.take (min k m)).map cutS'
where cutS' (s : ByteArray) : ByteArray := s.extract 0 (min s.size 60)
theorem cuts_len (m : Nat) (tx : List ByteArray) (k : Nat) : (cuts m tx k).length ≤ m := by unfold cuts; simp; omega
theorem cuts_size (m : Nat) (tx : List ByteArray) (k : Nat) : ∀ s ∈ cuts m tx k, s.size ≤ 60 := by
  intro s hs
  unfold cuts at hs
  obtain ⟨t, _, rfl⟩ := List.mem_map.1 hs
  unfold cuts.cutS'
  rw [ByteArray.size_extract]
  omega
theorem cuts_succ {m : Nat} {tx : List ByteArray} {k : Nat} (hk : k < tx.length) (hm : k < m) : cuts m tx (k + 1) = cuts m tx k ++ [cuts.cutS' tx[k]] := by
  unfold cuts
  rw [show min (k + 1) m = k + 1 by omega, show min k m = k by omega, List.take_succ_eq_append_getElem hk, List.map_append]
  rfl
theorem cuts_more {m : Nat} {tx : List ByteArray} {k : Nat} (hm : ¬ k < m) : cuts m tx (k + 1) = cuts m tx k := by
  unfold cuts
  rw [show min (k + 1) m = m by omega, show min k m = m by omega]
theorem allL_mem (l : List ByteArray) : ∀ (T T' : List ByteArray) (ns : List Int), allL T l = some (T', ns) → ∀ s ∈ T', s ∈ T ∨ s ∈ l := by
  have key : ∀ (l T : List ByteArray) (m : List Int) (T' : List ByteArray) (ns : List Int), l.foldl stepL (some (T, m)) = some (T', ns) → ∀ s ∈ T', s ∈ T ∨ s ∈ l := by
    intro l
    induction l with
    | nil => intro T m T' ns h s hs; simp at h; rw [h.1]; exact .inl hs
    | cons x l ih =>
      intro T m T' ns h s hs
      rw [List.foldl_cons, stepL_some] at h
      split at h
      · rcases ih _ _ _ _ h s hs with h | h
        · exact .inl h
        · exact .inr (by simp [h])
      · split at h
        · rw [foldL_none] at h; cases h
        · rcases ih _ _ _ _ h s hs with h | h
          · rcases List.mem_append.1 h with h | h
            · exact .inl h
            · exact .inr (by rw [List.mem_singleton] at h; simp [h])
          · exact .inr (by simp [h])
  intro T T' ns h
  exact key l T [] T' ns h
section
open Go.RowKit
variable {tt ts ti : TypeId} {w w' : World} {T' : List ByteArray} {ns : List Int} {m b : Nat} {vT vS vN : Value}
theorem AllOk.tb_new (h : AllOk ts ti w T' ns m vT vS vN w') : ∃ S', TB tt w'.heap.size vT vS T' S' (w'.alloc (.cells #[vT, vS] tt)) ∧ Sl (w'.alloc (.cells #[vT, vS] tt)) vN (ns.map (Value.int .i64)) ∧ Good hsh T' S' ∧ S'.length ≤ m ∧ Below w'.heap.size w' (w'.alloc (.cells #[vT, vS] tt)) := by
  obtain ⟨S', p1, p2, p3, p4⟩ := h.ex
  exact ⟨S', TB.new p1.sl p2.sl, h.oN.sl.alloc _, p3, p4, (Gr.alloc _ _).below⟩
theorem AllOk.tb_set (h : AllOk ts ti w T' ns m vT vS vN w') (kz : Blk w' b #[.slice none 0 0, .slice none 0 0] tt) (h1 : ts ≠ tt) (h2 : ti ≠ tt) : ∃ S', TB tt b vT vS T' S' ((w'.setCell ⟨b, 0, none⟩ vT).setCell ⟨b, 1, none⟩ vS) ∧ Sl ((w'.setCell ⟨b, 0, none⟩ vT).setCell ⟨b, 1, none⟩ vS) vN (ns.map (Value.int .i64)) ∧ Good hsh T' S' ∧ S'.length ≤ m ∧ ∀ B, B ≤ b → Below B w' ((w'.setCell ⟨b, 0, none⟩ vT).setCell ⟨b, 1, none⟩ vS) := by
  obtain ⟨S', p1, p2, p3, p4⟩ := h.ex
  have far : ∀ {t : TypeId} {x : Value} {l : List Value}, t ≠ tt → Ow t w.heap.size w' x l → Ow t w.heap.size ((w'.setCell ⟨b, 0, none⟩ vT).setCell ⟨b, 1, none⟩ vS) x l := fun ht ho =>
    ho.same fun g hg => (Below.heap_setCell _ _ _ _ (by rintro rfl; exact ho.ne_blk kz ht hg)).trans (Below.heap_setCell _ _ _ _ (by rintro rfl; exact ho.ne_blk kz ht hg))
  refine ⟨S', ⟨?_, (far h1 p1).sl, (far h2 p2).sl⟩, (far h2 h.oN).sl, p3, p4, fun B hB => ((Below.refl _ _).setCell (by simpa using hB) _).setCell (by simpa using hB) _⟩
  have := (kz.set 0 vT).set 1 vS
  simpa using this
end
end Go.Proofs.Kit
namespace Go.Proofs.Ytfnlegnieilcbaa
open Go.RowKit Go.Proofs.Kit Go.Shelf

theorem all_fit (vT vS vl : Value) (T l : List ByteArray) (S : List Int) (w : World) (hT : Sl w vT (T.map Value.string)) (hS : Sl w vS (S.map (Value.int .i64))) (hl : Sl w vl (l.map Value.string)) (hm : S.length ≤ 10000000) (hll : l.length ≤ 1000000)
    (hsz : ∀ s ∈ T, s.size ≤ 9223372036854775807) (hlz : ∀ s ∈ l, s.size ≤ 9223372036854775807) (hg : Kit.Good hsh T S) (T' : List ByteArray) (ns : List Int) (h : allL T l = some (T', ns)) :
    Calls Try.prog 23 #[.agg #[vT, vS], vl] w fun en w' => ∃ o1 x1 o2 x2 o3 x3 n2, en = .returned (.tuple #[.agg #[.slice o1 T'.length x1, .slice o2 n2 x2], .slice o3 l.length x3, .int .i64 0]) ∧ AllOk 9 3 w T' ns (max S.length 4096) (.slice o1 T'.length x1) (.slice o2 n2 x2) (.slice o3 l.length x3) w' := by
  refine (all_any vT vS vl T l S w hT hS hl hm hll hsz hlz hg).mono ?_
  rintro e w' (⟨_, h2, _⟩ | ⟨_, T2, n2, vT', vS', vN', h2, ha⟩)
  · rw [h] at h2; cases h2
  · rw [h] at h2
    injection h2 with h2
    injection h2 with h3 h4
    subst h3 h4
    obtain ⟨S', p1, p2, _⟩ := ha.ex
    obtain ⟨o1, x1, rfl⟩ := p1.shape
    obtain ⟨o2, x2, rfl⟩ := p2.shape
    obtain ⟨o3, x3, rfl⟩ := ha.oN.shape
    have e3 : ns.length = l.length := allL_len h
    simp only [List.length_map, e3] at ha ⊢
    exact ⟨o1, x1, o2, x2, o3, x3, _, rfl, ha⟩
theorem cutS_is (s : ByteArray) : cutS s = cuts.cutS' s := rfl
set_option maxRecDepth 100000 in
set_option maxHeartbeats 8000000 in
theorem parts_true (oT oS : Option Addr) (nT cT nS cS : Nat) (T : List ByteArray) (S : List Int) (oX : Option Addr) (nX cX : Nat) (tx : List ByteArray) (at' : Int) (w : World) (hlT : T.length = nT) (hlS : S.length = nS) (hT : nT ≤ 9223372036854775807) (hS : nS ≤ 9223372036854775807)
    (aT : ArgV w oT cT (T.map Value.string)) (aS : ArgV w oS cS (S.map (Value.int .i64))) (hz : ∀ s ∈ T, s.size ≤ 9223372036854775807)
    (hlX : tx.length = nX) (hX : nX ≤ 9223372036854775807) (aX : ArgV w oX cX (tx.map Value.string)) (hzX : ∀ s ∈ tx, s.size ≤ 9223372036854775807) :
    Calls Try.prog 7 #[.agg #[.slice oT nT cT, .slice oS nS cS], .slice oX nX cX, .int .i64 at'] w fun e w' => e = .returned (.bool true) ∧ Below w.heap.size w w' := by
  obtain ⟨i0, hi, hz0, hz1, hz2⟩ := infos
  have AT := Lib.hid aT
  have AS := Lib.hid aS
  have AX := Lib.hid aX
  have HZ := Lib.hid hz
  have HZX := Lib.hid hzX
  have HLT := Lib.hid hlT
  have HLS := Lib.hid hlS
  have HLX := Lib.hid hlX
  obtain ⟨bsm, hbsm⟩ := bool_of (nT ≤ 40 ∧ nS ≤ 128)
  have HBS := Lib.hid hbsm
  clear aT aS aX hz hzX hlT hlS hlX hbsm
  go_enter Try.func7, Try.ntmps7
  go_wp2_with fail
  obtain ⟨W1, hW1⟩ : ∃ W1, W1 = w.alloc (.cells #[.slice oT nT cT, .slice oS nS cS] 25) := ⟨_, rfl⟩
  have b1 : Below w.heap.size w W1 := by rw [hW1]; exact (Gr.alloc _ _).below
  have k1 : Blk W1 w.heap.size #[.slice oT nT cT, .slice oS nS cS] 25 := by rw [hW1]; exact Blk.new _ _ _
  rw [← hW1]
  clear hW1
  refine (wakes_any W1).mono ?_
  rintro e W2 ⟨rfl, b2⟩
  have bb2 : Below w.heap.size w W2 := b1.trans (b2.mono b1.size)
  have k2 := k1.later b2
  obtain ⟨c0, c1⟩ : W2.cell? ⟨w.heap.size, 0, none⟩ = some (.slice oT nT cT) ∧ W2.cell? ⟨w.heap.size, 1, none⟩ = some (.slice oS nS cS) := ⟨k2.cell 0, k2.cell 1⟩
  have K2 := Lib.hid k2
  clear k1 k2 b1 b2
  go_wp2_with fail
  refine (small_any oT oS nT cT nS cS W2 hT hS bsm HBS.out).mono ?_
  rintro e W3 ⟨rfl, g3⟩
  have bb3 := below_gr bb2 g3 bb2.size
  cases bsm
  · go_wp2
    go_ret
    exact ⟨rfl, bb3⟩
  · obtain ⟨h40, h128⟩ : nT ≤ 40 ∧ nS ≤ 128 := by have := HBS.out; simpa using this
    have K3 := Lib.hid (K2.out.gr g3)
    have hTl : T.length ≤ 40 := by have := HLT.out; omega
    have hSl : S.length ≤ 128 := by have := HLS.out; omega
    clear c0 c1 K2 g3
    go_wp2
    go_loopw [7, 8, 9, 27] (fun v _ _ i wr => ∃ k : Nat, k ≤ nX ∧ i = .int .i64 (k : Int) ∧ Hid (Ow 9 W3.heap.size wr v ((cuts 14 tx k).map Value.string)) ∧ Below W3.heap.size W3 wr) (fun _ _ _ i _ => nX - (intOf i).toNat)
    case atStart => exact ⟨0, Nat.zero_le _, rfl, Lib.hid (Ow.nil _ _ _), Below.refl _ _⟩
    case round =>
      obtain ⟨k, hk, rfl, hO, hB⟩ := hrel
      have bbr : Below w.heap.size w wr := bb3.trans (hB.mono bb3.size)
      by_cases hkn : k < nX
      · have hkl : k < tx.length := by have := HLX.out; omega
        rcases AX.out with ⟨_, h, _⟩ | ⟨a, rfl, hcX⟩
        · have : tx = [] := by simpa using h
          rw [this] at hkl; simp at hkl
        · have d := (bbr.cell (World.block_lt_of_cell? _ _ (hcX k (by simpa using hkl)))).trans (hcX k (by simpa using hkl))
          rw [List.getElem_map] at d
          have hsz := HZX.out _ (List.getElem_mem hkl)
          have hsu : k < 14 → cuts 14 tx (k + 1) = cuts 14 tx k ++ [cuts.cutS' tx[k]] := cuts_succ hkl
          obtain ⟨s, hs⟩ : ∃ s, s = tx[k] := ⟨_, rfl⟩
          rw [← hs] at d hsz hsu
          have HSU := Lib.hid hsu
          clear hs hsu hcX
          have hlen := cuts_len 14 tx k
          by_cases h14 : k < 14
          · have h14' : decide ((k : Int) < 14) = true := by rw [decide_eq_true_eq]; omega
            have hcut := cut_any s hsz
            rw [cutS_is] at hcut
            have e1 := HSU.out h14
            have HE1 := Lib.hid e1
            obtain ⟨s', hs'⟩ : ∃ s', s' = cuts.cutS' s := ⟨_, rfl⟩
            rw [← hs'] at hcut HE1
            clear hs' e1 HSU
            have HOA := Lib.hid (hO.out.alloc (.cells #[.string s'] 9))
            obtain ⟨ov, xv, ev⟩ := hO.out.shape
            rw [List.length_map] at ev
            obtain ⟨nl, hnl⟩ : ∃ nl, nl = (cuts 14 tx k).length := ⟨_, rfl⟩
            rw [← hnl] at ev hlen
            subst ev
            have HNL := Lib.hid hnl
            clear hnl
            go_wp2_with (first | (go_at_call 13; refine (hcut _).mono ?_; rintro e w' ⟨rfl, rfl⟩) | (at_builtin; refine wpList_append_sl rfl _ _ 22 rfl W3.heap.size 9 i0 (.string ⟨#[]⟩) 16 Try.underlying22 hi hz0 hz1 hz2 rfl _ _ rfl HOA.out _ [.string s'] rfl ?qa ?qb ?qc ?qd ?qe ?_))
            case qa => exact Sl.of_blk (Blk.new _ _ _) (by simp) (by simp) (by simp)
            case qb => simp [Value.oneCell']
            case qc => simp; have := HNL.out; omega
            case qd => simp; have := HNL.out; omega
            case qe => simp; have := hB.size; omega
            rw [show (cuts 14 tx k).map Value.string ++ [Value.string s'] = (cuts 14 tx (k + 1)).map Value.string by rw [HE1.out]; simp]
            intro v2 w2 hO2 hG2
            have hB2 : Below W3.heap.size W3 w2 := (hB.alloc hB.size _).grown hG2 (by simp; have := hB.size; omega) (fun g hg => (HOA.out.lt g hg).1)
            have HO2 := Lib.hid hO2
            clear hO2 hG2 HOA
            go_wp2
            go_roundw
            case rel => exact ⟨k + 1, by omega, by go_num, HO2, hB2⟩
            case measure => simp [intOf]; omega
          · have h14' : decide ((k : Int) < 14) = false := by rw [decide_eq_false_iff_not]; omega
            have HO2 : Hid (Ow 9 W3.heap.size wr u7 ((cuts 14 tx (k + 1)).map Value.string)) := Lib.hid (by rw [cuts_more h14]; exact hO.out)
            clear HSU
            go_wp2
            go_roundw
            case rel => exact ⟨k + 1, by omega, by go_num, HO2, hB⟩
            case measure => simp [intOf]; omega
      · obtain rfl : k = nX := by omega
        obtain ⟨L, hL⟩ : ∃ L, L = cuts 14 tx k := ⟨_, rfl⟩
        have hLl : L.length ≤ 14 := by rw [hL]; exact cuts_len 14 tx k
        have hLz : ∀ s ∈ L, s.size ≤ 60 := by rw [hL]; exact cuts_size 14 tx k
        rw [← hL] at hO
        obtain ⟨ov, xv, ev⟩ := hO.out.shape
        rw [List.length_map] at ev
        subst ev
        have k3 := K3.out.later hB
        obtain ⟨c0, c1⟩ : wr.cell? ⟨w.heap.size, 0, none⟩ = some (.slice oT nT cT) ∧ wr.cell? ⟨w.heap.size, 1, none⟩ = some (.slice oS nS cS) := ⟨k3.cell 0, k3.cell 1⟩
        have KR := Lib.hid k3
        have HLZ := Lib.hid hLz
        clear hL hLz k3
        obtain ⟨j, hj, ej⟩ : ∃ j : Nat, j ≤ L.length ∧ wrap64 ((IntKind.u64.wrap at').tmod ((L.length : Int) + 1)) = (j : Int) := by
          have h0 : 0 ≤ IntKind.u64.wrap at' := by rw [IntKind.wrap_u64]; omega
          rw [Int.tmod_eq_emod_of_nonneg h0]
          have h1 := Int.emod_nonneg (IntKind.u64.wrap at') (show (L.length : Int) + 1 ≠ 0 by omega)
          have h2 := Int.emod_lt_of_pos (IntKind.u64.wrap at') (show (0 : Int) < (L.length : Int) + 1 by omega)
          refine ⟨((IntKind.u64.wrap at') % ((L.length : Int) + 1)).toNat, by omega, ?_⟩
          generalize (IntKind.u64.wrap at') % ((L.length : Int) + 1) = z at h1 h2 ⊢
          unfold wrap64
          omega
        obtain ⟨ll, hll⟩ : ∃ ll, ll = L.length := ⟨_, rfl⟩
        rw [← hll] at hLl hj ej hO ⊢
        have HLL := Lib.hid hll
        clear hll
        go_upto_region 13 with (fail)
        rw [ej]
        clear ej
        go_wp2_with fail
        refine (own_any oT oS nT cT nS cS T S wr HLT.out HLS.out (by omega) (by omega) (AT.out.later bbr) (AS.out.later bbr)).mono ?_
        rintro e w4 ⟨va, vb, rfl, oa, ob, b4⟩
        have bb4 : Below w.heap.size w w4 := bbr.trans (b4.mono bbr.size)
        have HO4 := Lib.hid (hO.out.later b4)
        have K4 := Lib.hid (KR.out.later b4)
        obtain ⟨o1, x1, rfl⟩ := oa.shape
        obtain ⟨o2, x2, rfl⟩ := ob.shape
        rw [List.length_map] at oa ob
        rw [List.length_map, List.length_map]
        clear c0 c1 hO KR
        by_cases hg : Kit.Good hsh T S
        · obtain ⟨TL, nsL, hal, hTL⟩ := allL_fits L T (by rw [← HLL.out]; omega)
          go_wp2_with fail
          refine (all_fit _ _ _ T L S w4 oa.sl ob.sl HO4.out.sl (by omega) (by rw [← HLL.out]; omega) HZ.out (fun s hs => by have := HLZ.out s hs; omega) hg TL nsL hal).mono ?_
          rintro e w5 ⟨a1, y1, a2, y2, a3, y3, m2, rfl, ha⟩
          rw [← HLL.out] at ha ⊢
          have bb5 : Below w.heap.size w w5 := bb4.trans (ha.low.mono bb4.size)
          have HO5 := HO4.out.later ha.low
          have K5 := K4.out.later ha.low
          obtain ⟨S5, p1, p2, p3, p4⟩ := ha.ex
          have hTC := TB.new (tt := 25) p1.sl p2.sl
          obtain ⟨W6, hW6⟩ : ∃ W6, W6 = w5.alloc (.cells #[.slice a1 TL.length y1, .slice a2 m2 y2] 25) := ⟨_, rfl⟩
          have g6 : Gr w5 W6 := by rw [hW6]; exact Gr.alloc _ _
          obtain ⟨b6, hb6⟩ : ∃ b6, b6 = w5.heap.size := ⟨_, rfl⟩
          have bb6 := below_gr bb5 g6 bb5.size
          rw [← hW6, ← hb6] at hTC
          have HTC := Lib.hid hTC
          have HN := Lib.hid (ha.oN.sl.later g6.below)
          have HO6 := Lib.hid (HO5.gr g6)
          have K6 := Lib.hid (K5.gr g6)
          have HG := Lib.hid hg
          have HAL := Lib.hid hal
          clear hTC HO5 K5 ha p1 p2 p3 p4 hg hal oa ob HO4 K4 g6
          go_upto_region 14 with (fail)
          rw [← hW6, ← hb6]
          clear hW6 hb6
          obtain ⟨T1, n1, hal1, hT1⟩ := allL_fits (L.take j) T (by rw [List.length_take, ← HLL.out]; omega)
          have hlj : (L.take j).length = j := by rw [List.length_take, ← HLL.out]; omega
          have hLjz : ∀ s ∈ L.take j, s.size ≤ 9223372036854775807 := fun s hs => by have := HLZ.out s (List.mem_of_mem_take hs); omega
          obtain ⟨xj, hxj⟩ : ∃ xj : Nat, xj = xv := ⟨_, rfl⟩
          have hcap : ll ≤ xv := by
            rcases HO6.out.2 with ⟨e, _⟩ | ⟨g, cap, cur, e, _, _, h1, _⟩
            · injection e with _ e1 e2; omega
            · injection e with _ e1 e2; omega
          obtain ⟨c0, c1⟩ : W6.cell? ⟨w.heap.size, 0, none⟩ = some (.slice oT nT cT) ∧ W6.cell? ⟨w.heap.size, 1, none⟩ = some (.slice oS nS cS) := ⟨K6.out.cell 0, K6.out.cell 1⟩
          have hslj : Sl W6 (.slice ov j xv) ((L.take j).map Value.string) := by
            have := (HO6.out.sl)
            rw [show ll = (L.map Value.string).length by rw [List.length_map, HLL.out]] at this
            have := this.upto (n := j) (by rw [List.length_map, ← HLL.out]; exact hj)
            rwa [← List.map_take] at this
          have HSLJ := Lib.hid hslj
          have HAL1 := Lib.hid hal1
          have HLJ := Lib.hid hlj
          have HLJZ := Lib.hid hLjz
          clear hslj hal1 hlj hLjz hxj xj
          have bw6 : Below W6.heap.size W6 W6.drew := (Below.refl _ _).drew
          have hjx : j ≤ xv := by omega
          have hw6 : w.heap.size < W6.heap.size := K6.out.lt
          have hS7 : S.length ≤ 10000000 := by omega
          have hL7 : (L.take j).length ≤ 1000000 := by rw [HLJ.out]; omega
          go_cut [14, 15, 16] from 56 to 65 (fun s14 s15 s16 wc => ∃ b14 a4 y4 a5 m5 y5 a6 y6 S6, s14 = .pointer (some ⟨b14, 0, none⟩) ∧ s15 = .slice a6 j y6 ∧ s16 = .int .i64 0 ∧ TB 25 b14 (.slice a4 T1.length y4) (.slice a5 m5 y5) T1 S6 wc ∧ Sl wc (.slice a6 j y6) (n1.map (Value.int .i64)) ∧ Kit.Good hsh T1 S6 ∧ S6.length ≤ 4096 ∧ Below W6.heap.size W6 wc)
          case first =>
            go_region_law (first
              | (go_simp; go_at_call 10; (with_reducible refine (own_any oT oS nT cT nS cS T S _ HLT.out HLS.out (by omega) (by omega) (AT.out.later (by first | exact bb6.drew | exact bb6.drew.alloc (by have := bb6.size; simp; omega) _ | exact (bb6.alloc bb6.size _).drew)) (AS.out.later (by first | exact bb6.drew | exact bb6.drew.alloc (by have := bb6.size; simp; omega) _ | exact (bb6.alloc bb6.size _).drew))).mono ?_); rintro e wa ⟨va, vb, rfl, oa, ob, ba⟩; obtain ⟨o7, x7, rfl⟩ := oa.shape; obtain ⟨o8, x8, rfl⟩ := ob.shape
                 rw [List.length_map] at oa ob
                 have ya : Below W6.heap.size W6 wa := (by first | exact bw6.trans (ba.mono bw6.size) | exact (bw6.alloc bw6.size _).trans (ba.mono (by simp)) | exact (bw6.alloc (by simp) _).trans (ba.mono (by simp)))
                 (first | (have kz : Blk wa _ #[.slice none 0 0, .slice none 0 0] 25 := (Blk.new W6 _ _).drew.later ba) | skip))
              | (go_simp; go_at_call 23; (with_reducible refine (all_fit _ _ _ T (L.take j) S _ (by first | exact oa.sl | exact (oa.alloc _).sl) (by first | exact ob.sl | exact (ob.alloc _).sl) (by first | exact HSLJ.out.later ya | exact (HSLJ.out.later ya).alloc _) hS7 hL7 HZ.out HLJZ.out HG.out T1 n1 HAL1.out).mono ?_); rintro e wb ⟨a7, y7, a8, y8, a9, y9, m9, rfl, hall⟩
                 rw [HLJ.out] at hall ⊢
                 have yb : Below W6.heap.size W6 wb := (by first | exact ya.trans (hall.low.mono ya.size) | exact (ya.alloc ya.size _).trans (hall.low.mono (by have := ya.size; simp; omega)))
                 (first | (have kz := kz.later hall.low) | (have kz : Blk wb _ #[.slice none 0 0, .slice none 0 0] 25 := (Blk.new wa _ _).later hall.low) | skip)
                 (first | (obtain ⟨z0, z1, z2, z3, z4⟩ : _ ∧ _ ∧ _ ∧ _ ∧ _ := ⟨kz.cell 0, kz.cell 1, kz.frozen 0, kz.frozen 1, kz.lt⟩; simp only [List.getElem?_toArray, List.getElem?_cons_zero, List.getElem?_cons_succ] at z0 z1) | skip)))
            all_goals
              go_wp2_with fail
              go_meet
              first
                | (obtain ⟨S6, t1, t2, t3, t4, t5⟩ := hall.tb_new (tt := 25)
                   exact ⟨_, _, _, _, _, _, _, _, S6, rfl, rfl, rfl, t1, t2, t3, by omega, yb.trans (t5.mono yb.size)⟩)
                | (obtain ⟨S6, t1, t2, t3, t4, t5⟩ := hall.tb_set kz (by decide) (by decide)
                   exact ⟨_, _, _, _, _, _, _, _, S6, rfl, rfl, rfl, t1, t2, t3, by omega, yb.trans (t5 _ (by first | exact ya.size | exact Nat.le_refl _))⟩)
          case rest =>
            obtain ⟨b14, a4, y4, a5, m5, y5, a6, y6, S6, rfl, rfl, rfl, t1, t2, t3, t4, t5⟩ := hcut
            have HTD := Lib.hid t1
            have HN1 := Lib.hid t2
            have HG6 := Lib.hid t3
            have HTC7 := Lib.hid (HTC.out.later t5)
            have HN7 := Lib.hid (HN.out.later t5)
            have HO7 := Lib.hid (HO6.out.later t5)
            have bb7 : Below w.heap.size w wc := bb6.trans (t5.mono bb6.size)
            have hsp : L = L.take j ++ L.drop j := (List.take_append_drop j L).symm
            obtain ⟨T2, n2, hal2, hT2⟩ := allL_fits (L.drop j) T1 (by rw [List.length_drop, ← HLL.out]; have := HLJ.out; omega)
            have hjoin := allL_append (L.take j) (L.drop j) HAL1.out
            rw [← hsp, HAL.out, hal2] at hjoin
            simp only [Option.map_some, Option.some.injEq, Prod.mk.injEq] at hjoin
            obtain ⟨rfl, rfl⟩ := hjoin
            clear t1 t2 t3 hsp HTC HN HO6 K6 c0 c1 t5 bw6 HSLJ
            go_upto_region 17 with (fail)
            have hL2 : (L.drop j).length ≤ 1000000 := by rw [List.length_drop, ← HLL.out]; omega
            have hL2z : ∀ s ∈ L.drop j, s.size ≤ 9223372036854775807 := fun s hs => by have := HLZ.out s (List.mem_of_mem_drop hs); omega
            have HL2Z := Lib.hid hL2z
            have hT1z : ∀ s ∈ T1, s.size ≤ 9223372036854775807 := fun s hs => by
              rcases allL_mem _ _ _ _ HAL1.out s hs with h | h
              · exact HZ.out s h
              · exact HLJZ.out s h
            have HT1Z := Lib.hid hT1z
            have hS6 : S6.length ≤ 10000000 := by omega
            have HAL2 := Lib.hid hal2
            clear hL2z hT1z hal2
            obtain ⟨d0, d1⟩ := HTD.out.cells
            have hbl : b14 < wc.heap.size := HTD.out.kb.lt
            have bw7 : Below wc.heap.size wc wc.drew := (Below.refl _ _).drew
            go_cut [17, 18, 19] from 76 to 84 (fun s17 s18 s19 wd => ∃ b17 a7 y7 a8 m8 y8 a9 y9 S8, s17 = .pointer (some ⟨b17, 0, none⟩) ∧ s18 = .slice a9 (ll - j) y9 ∧ s19 = .int .i64 0 ∧ TB 25 b17 (.slice a7 TL.length y7) (.slice a8 m8 y8) TL S8 wd ∧ Sl wd (.slice a9 (ll - j) y9) (n2.map (Value.int .i64)) ∧ Below wc.heap.size wc wd)
            case first =>
              have HLD := Lib.hid (show (L.drop j).length = ll - j by rw [List.length_drop, ← HLL.out])
              rcases HO7.out.2 with ⟨e, e2⟩ | ⟨g, cap, cur, e, hg, hblk, h1, h2, h3, h4⟩
              · injection e with e1 e2 e3
                subst e1
                have HSL : Hid (Sl wc (.slice none (ll - j) (xv - j)) ((L.drop j).map Value.string)) := Lib.hid (by
                  have : L = [] := List.length_eq_zero_iff.1 (by rw [← HLL.out]; exact e2)
                  rw [this, e2, e3, Nat.zero_sub, List.drop_nil]; exact Sl.nil _)
                have hxj : xv = j := by omega
                have HXJ := Lib.hid hxj
                clear e2 e3 hxj
                go_region_law ((go_simp; go_at_call 23; (with_reducible refine (all_fit _ _ _ T1 (L.drop j) S6 _ (by first | exact HTD.out.sT.drew | exact (HTD.out.sT.alloc _).drew) (by first | exact HTD.out.sS.drew | exact (HTD.out.sS.alloc _).drew) (by first | exact HSL.out.drew | exact (HSL.out.alloc _).drew) hS6 hL2 HT1Z.out HL2Z.out HG6.out TL n2 HAL2.out).mono ?_); rintro e wb ⟨a7, y7, a8, y8, a9, y9, m9, rfl, hall⟩; rw [HLD.out] at hall ⊢; have yb : Below wc.heap.size wc wb := (by first | exact bw7.trans (hall.low.mono (by simp)) | exact (bw7.alloc (by simp) _).trans (hall.low.mono (by simp))); (first | (have kz : Blk wb _ #[.slice none 0 0, .slice none 0 0] 25 := (Blk.new wc _ _).drew.later hall.low) | skip); (first | (obtain ⟨z0, z1, z2, z3, z4⟩ : _ ∧ _ ∧ _ ∧ _ ∧ _ := ⟨kz.cell 0, kz.cell 1, kz.frozen 0, kz.frozen 1, kz.lt⟩; simp only [List.getElem?_toArray, List.getElem?_cons_zero, List.getElem?_cons_succ] at z0 z1) | skip)))
                all_goals
                  go_wp2_with fail
                  go_meet
                  first
                    | (obtain ⟨S8, t1, t2, t3, t4, t5⟩ := hall.tb_new (tt := 25)
                       exact ⟨_, _, _, _, _, _, _, _, S8, rfl, rfl, rfl, t1, t2, yb.trans (t5.mono yb.size)⟩)
                    | (obtain ⟨S8, t1, t2, t3, t4, t5⟩ := hall.tb_set kz (by decide) (by decide)
                       exact ⟨_, _, _, _, _, _, _, _, S8, rfl, rfl, rfl, t1, t2, yb.trans (t5 _ (Nat.le_refl _))⟩)
              · injection e with e1 e2 e3
                subst e1 e3
                clear e2 h3 h4
                by_cases hxj : xv = j
                · have hlj2 : ll = j := by omega
                  subst hxj
                  have HSL : Hid (Sl wc (.slice (some ⟨g, 0, none⟩) 0 0) ((L.drop xv).map Value.string)) := Lib.hid (by
                    have : L.drop xv = [] := by rw [List.drop_eq_nil_iff, ← HLL.out]; omega
                    rw [this]
                    exact ⟨by simp, .inr ⟨g, 0, 0, rfl, by simp, by simp, (Array.getElem?_eq_some_iff.1 hblk).1, fun i hi => by simp at hi⟩⟩)
                  clear hblk h1 h2 hlj2
                  go_region_law ((go_simp; go_at_call 23; (with_reducible refine (all_fit _ _ _ T1 (L.drop xv) S6 _ (by first | exact HTD.out.sT.drew | exact (HTD.out.sT.alloc _).drew) (by first | exact HTD.out.sS.drew | exact (HTD.out.sS.alloc _).drew) (by first | exact HSL.out.drew | exact (HSL.out.alloc _).drew) hS6 hL2 HT1Z.out HL2Z.out HG6.out TL n2 HAL2.out).mono ?_); rintro e wb ⟨a7, y7, a8, y8, a9, y9, m9, rfl, hall⟩; rw [HLD.out] at hall ⊢; have yb : Below wc.heap.size wc wb := (by first | exact bw7.trans (hall.low.mono (by simp)) | exact (bw7.alloc (by simp) _).trans (hall.low.mono (by simp))); (first | (have kz : Blk wb _ #[.slice none 0 0, .slice none 0 0] 25 := (Blk.new wc _ _).drew.later hall.low) | skip); (first | (obtain ⟨z0, z1, z2, z3, z4⟩ : _ ∧ _ ∧ _ ∧ _ ∧ _ := ⟨kz.cell 0, kz.cell 1, kz.frozen 0, kz.frozen 1, kz.lt⟩; simp only [List.getElem?_toArray, List.getElem?_cons_zero, List.getElem?_cons_succ] at z0 z1) | skip)))
                  all_goals
                    go_wp2_with fail
                    go_meet
                    first
                      | (obtain ⟨S8, t1, t2, t3, t4, t5⟩ := hall.tb_new (tt := 25)
                         exact ⟨_, _, _, _, _, _, _, _, S8, rfl, (by first | rfl | rw [show ll - xv = 0 by omega]), rfl, t1, t2, yb.trans (t5.mono yb.size)⟩)
                      | (obtain ⟨S8, t1, t2, t3, t4, t5⟩ := hall.tb_set kz (by decide) (by decide)
                         exact ⟨_, _, _, _, _, _, _, _, S8, rfl, (by first | rfl | rw [show ll - xv = 0 by omega]), rfl, t1, t2, yb.trans (t5 _ (Nat.le_refl _))⟩)
                · have HSL : Hid (Sl wc (.slice (some ⟨g, j, none⟩) (ll - j) (xv - j)) ((L.drop j).map Value.string)) := Lib.hid (by
                    have := HO7.out.sl
                    rw [show ll = (L.map Value.string).length by rw [List.length_map, HLL.out]] at this
                    have := this.sub (p := j) (q := (L.map Value.string).length) (by rw [List.length_map, ← HLL.out]; exact hj) (Nat.le_refl _)
                    rw [List.length_map, ← HLL.out, Nat.zero_add] at this
                    rwa [show (L.map Value.string).drop j = (L.drop j).map Value.string from List.map_drop.symm, List.take_of_length_le (by rw [List.length_map, List.length_drop, ← HLL.out]; omega)] at this)
                  clear hblk h1 h2
                  go_region_law ((go_simp; go_at_call 23; (with_reducible refine (all_fit _ _ _ T1 (L.drop j) S6 _ (by first | exact HTD.out.sT.drew | exact (HTD.out.sT.alloc _).drew) (by first | exact HTD.out.sS.drew | exact (HTD.out.sS.alloc _).drew) (by first | exact HSL.out.drew | exact (HSL.out.alloc _).drew) hS6 hL2 HT1Z.out HL2Z.out HG6.out TL n2 HAL2.out).mono ?_); rintro e wb ⟨a7, y7, a8, y8, a9, y9, m9, rfl, hall⟩; rw [HLD.out] at hall ⊢; have yb : Below wc.heap.size wc wb := (by first | exact bw7.trans (hall.low.mono (by simp)) | exact (bw7.alloc (by simp) _).trans (hall.low.mono (by simp))); (first | (have kz : Blk wb _ #[.slice none 0 0, .slice none 0 0] 25 := (Blk.new wc _ _).drew.later hall.low) | skip); (first | (obtain ⟨z0, z1, z2, z3, z4⟩ : _ ∧ _ ∧ _ ∧ _ ∧ _ := ⟨kz.cell 0, kz.cell 1, kz.frozen 0, kz.frozen 1, kz.lt⟩; simp only [List.getElem?_toArray, List.getElem?_cons_zero, List.getElem?_cons_succ] at z0 z1) | skip)))
                  all_goals
                    go_wp2_with fail
                    go_meet
                    first
                      | (obtain ⟨S8, t1, t2, t3, t4, t5⟩ := hall.tb_new (tt := 25)
                         exact ⟨_, _, _, _, _, _, _, _, S8, rfl, rfl, rfl, t1, t2, yb.trans (t5.mono yb.size)⟩)
                      | (obtain ⟨S8, t1, t2, t3, t4, t5⟩ := hall.tb_set kz (by decide) (by decide)
                         exact ⟨_, _, _, _, _, _, _, _, S8, rfl, rfl, rfl, t1, t2, yb.trans (t5 _ (Nat.le_refl _))⟩)
            case rest =>
              obtain ⟨b17, a7, y7, a8, m8, y8, a9, y9, S8, rfl, rfl, rfl, t1, t2, t5⟩ := hcut
              have bb8 : Below w.heap.size w wc := bb7.trans (t5.mono bb7.size)
              have HTE := Lib.hid t1
              have HN2 := Lib.hid t2
              have HN18 := Lib.hid (HN1.out.later t5)
              have HN8 := Lib.hid (HN7.out.later t5)
              have HTC8 := Lib.hid (HTC7.out.later t5)
              have hn1l : n1.length ≤ 1000000 := by have := allL_len HAL1.out; have := HLJ.out; omega
              have hn2l : n2.length ≤ 1000000 := by have := allL_len HAL2.out; rw [this]; exact hL2
              clear t1 t2 t5 d0 d1 HN1 HN7 HTC7 HO7 HTD
              go_wp2_with fail
              have kbs := Blk.new wc #[.slice a6 j y6, .slice a9 (ll - j) y9] 23
              have gbs : Gr wc (wc.alloc (.cells #[.slice a6 j y6, .slice a9 (ll - j) y9] 23)) := Gr.alloc _ _
              refine (concat2 wc.heap.size _ _ n1 n2 _ kbs (HN18.out.gr gbs) (HN2.out.gr gbs) hn1l hn2l).mono ?_
              rintro e w9 ⟨v9, rfl, o9, b9⟩
              have bb9 : Below w.heap.size w w9 := (below_gr bb8 gbs bb8.size).trans (b9.mono (by have := bb8.size; simp; omega))
              have hN9 := (HN8.out.gr gbs).later b9
              have HTC9 := Lib.hid ((HTC8.out.later gbs.below).later b9)
              have HTE9 := Lib.hid ((HTE.out.later gbs.below).later b9)
              obtain ⟨o10, x10, e10⟩ := o9.shape
              obtain ⟨q9, hq9⟩ : ∃ q9, q9 = ((n1 ++ n2).map (Value.int .i64)).length := ⟨_, rfl⟩
              rw [← hq9] at e10
              clear hq9
              subst e10
              clear kbs gbs HN18 HN2 HN8 HTC8 HTE b9
              go_wp2_with fail
              refine (equali_sl _ _ (n1 ++ n2) (n1 ++ n2) w9 o9.sl hN9).mono ?_
              rw [decide_eq_true (rfl : n1 ++ n2 = n1 ++ n2)]
              rintro e w10 ⟨rfl, g10⟩
              have G10 := Gr.of_dr g10
              have bb10 := below_gr bb9 G10 bb9.size
              have HTC10 := Lib.hid (HTC9.out.later G10.below)
              have HTE10 := Lib.hid (HTE9.out.later G10.below)
              obtain ⟨c0, c1⟩ := HTC10.out.cells
              obtain ⟨d0, d1⟩ := HTE10.out.cells
              clear G10 g10 o9 hN9 HTC9 HTE9
              go_wp2_with fail
              refine (equals_sl _ _ TL TL w10 HTE10.out.sT HTC10.out.sT).mono ?_
              rw [decide_eq_true (rfl : TL = TL)]
              rintro e w11 ⟨rfl, g11⟩
              have bb11 := below_gr bb10 (Gr.of_dr g11) bb10.size
              go_wp2
              go_ret
              exact ⟨rfl, bb11⟩
        · go_wp2_with fail
          refine (all_bad _ _ _ ⟨_, _, _, rfl⟩ T S w4 oa.sl ob.sl (by omega) (by omega) HZ.out hg).mono ?_
          rintro e w5 ⟨rfl, b5⟩
          have bb5 : Below w.heap.size w w5 := bb4.trans (b5.mono bb4.size)
          have HO5 := HO4.out.later b5
          have K5 := K4.out.later b5
          obtain ⟨W6, hW6⟩ : ∃ W6, W6 = w5.alloc (.cells #[.slice none 0 0, .slice none 0 0] 25) := ⟨_, rfl⟩
          have g6 : Gr w5 W6 := by rw [hW6]; exact Gr.alloc _ _
          have bb6 := below_gr bb5 g6 bb5.size
          obtain ⟨b6, hb6⟩ : ∃ b6, b6 = w5.heap.size := ⟨_, rfl⟩
          have HO6 := Lib.hid (HO5.gr g6)
          have K6 := Lib.hid (K5.gr g6)
          have HG := Lib.hid hg
          clear HO5 K5 b5 hg oa ob HO4 K4 g6
          go_upto_region 14 with (fail)
          rw [← hW6, ← hb6]
          clear hW6 hb6
          have hcap : ll ≤ xv := by
            rcases HO6.out.2 with ⟨e, _⟩ | ⟨g, cap, cur, e, _, _, h1, _⟩
            · injection e with _ e1 e2; omega
            · injection e with _ e1 e2; omega
          obtain ⟨c0, c1⟩ : W6.cell? ⟨w.heap.size, 0, none⟩ = some (.slice oT nT cT) ∧ W6.cell? ⟨w.heap.size, 1, none⟩ = some (.slice oS nS cS) := ⟨K6.out.cell 0, K6.out.cell 1⟩
          have bw6 : Below W6.heap.size W6 W6.drew := (Below.refl _ _).drew
          have hjx : j ≤ xv := by omega
          have hw6 : w.heap.size < W6.heap.size := K6.out.lt
          go_cut [14, 15, 16] from 56 to 65 (fun s14 s15 s16 wc => s15 = .slice none 0 0 ∧ s16 = .int .i64 150 ∧ Below W6.heap.size W6 wc)
          case first =>
            go_region_law (first
              | (go_simp; go_at_call 10; (with_reducible refine (own_any oT oS nT cT nS cS T S _ HLT.out HLS.out (by omega) (by omega) (AT.out.later (by first | exact bb6.drew | exact bb6.drew.alloc (by have := bb6.size; simp; omega) _ | exact (bb6.alloc bb6.size _).drew)) (AS.out.later (by first | exact bb6.drew | exact bb6.drew.alloc (by have := bb6.size; simp; omega) _ | exact (bb6.alloc bb6.size _).drew))).mono ?_); rintro e wa ⟨va, vb, rfl, oa, ob, ba⟩; obtain ⟨o7, x7, rfl⟩ := oa.shape; obtain ⟨o8, x8, rfl⟩ := ob.shape
                 rw [List.length_map] at oa ob
                 have ya : Below W6.heap.size W6 wa := (by first | exact bw6.trans (ba.mono bw6.size) | exact (bw6.alloc bw6.size _).trans (ba.mono (by simp)) | exact (bw6.alloc (by simp) _).trans (ba.mono (by simp)))
                 (first | (have kz : Blk wa _ #[.slice none 0 0, .slice none 0 0] 25 := (Blk.new W6 _ _).drew.later ba) | skip))
              | (go_simp; go_at_call 23; (with_reducible refine (all_bad _ _ _ ⟨_, _, _, rfl⟩ T S _ (by first | exact oa.sl | exact (oa.alloc _).sl) (by first | exact ob.sl | exact (ob.alloc _).sl) (by omega) (by omega) HZ.out HG.out).mono ?_); rintro e wb ⟨rfl, hall⟩
                 have yb : Below W6.heap.size W6 wb := (by first | exact ya.trans (hall.mono ya.size) | exact (ya.alloc ya.size _).trans (hall.mono (by have := ya.size; simp; omega)))
                 (first | (have kz := kz.later hall) | (have kz : Blk wb _ #[.slice none 0 0, .slice none 0 0] 25 := (Blk.new wa _ _).later hall) | skip)
                 (first | (obtain ⟨z0, z1, z2, z3, z4⟩ : _ ∧ _ ∧ _ ∧ _ ∧ _ := ⟨kz.cell 0, kz.cell 1, kz.frozen 0, kz.frozen 1, kz.lt⟩; simp only [List.getElem?_toArray, List.getElem?_cons_zero, List.getElem?_cons_succ] at z0 z1) | skip)))
            all_goals
              go_wp2_with fail
              go_meet
              first
                | exact ⟨rfl, rfl, yb.alloc yb.size _⟩
                | exact ⟨rfl, rfl, (yb.setCell (by first | exact ya.size | exact Nat.le_refl _) _).setCell (by first | exact ya.size | exact Nat.le_refl _) _⟩
          case rest =>
            obtain ⟨rfl, rfl, t5⟩ := hcut
            have bb7 : Below w.heap.size w wc := bb6.trans (t5.mono bb6.size)
            clear t5 c0 c1
            go_wp2
            go_ret
            exact ⟨rfl, bb7⟩
end Go.Proofs.Ytfnlegnieilcbaa
