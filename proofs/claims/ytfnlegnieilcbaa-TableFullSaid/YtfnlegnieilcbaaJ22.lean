/- TableTells: the law's walk. -/
import Derived.Test.YtfnlegnieilcbaaJ20
import Derived.Test.YtfnlegnieilcbaaJ21
import Derived.Deep.CutBlock
import Derived.Lib.MinMax
namespace Go.Proofs.Kit
/-- Whether a table may be. -/
def GB (b : Bool) (T : List ByteArray) (S : List Int) : Prop := (b = true ∧ Good hsh T S) ∨ (b = false ∧ ¬ Good hsh T S)
/-- What Find answers, beside the reference's. -/
theorem tells_find {T : List ByteArray} {S : List Int} {s : ByteArray} {n wn : Int} {ok bR : Bool} (hr : GB bR T S) (h : FindR T S s n ok) (hw : wn = fdI T s) :
    (bR = true ∧ ok = true ∧ ∃ p : Nat, n = (p : Int) ∧ wn = (p : Int)) ∨ (bR = true ∧ ok = false ∧ n = 0 ∧ wn = -1) ∨ (bR = false ∧ ok = false ∧ n = 0) := by
  rcases hr with ⟨rfl, hg⟩ | ⟨rfl, hg⟩
  · rcases h with ⟨_, h1, rfl, rfl⟩ | ⟨h1, rfl, rfl⟩
    · exact .inl ⟨rfl, rfl, _, rfl, by rw [hw]; unfold fdI; rw [if_pos h1]⟩
    · exact .inr (.inl ⟨rfl, rfl, rfl, by rw [hw]; unfold fdI; rw [if_neg (fun e => h1 ⟨hg, e⟩)]⟩)
  · rcases h with ⟨h1, _⟩ | ⟨_, rfl, rfl⟩
    · exact (hg h1).elim
    · exact .inr (.inr ⟨rfl, rfl, rfl⟩)
theorem tells_text {T : List ByteArray} {S : List Int} {r : ByteArray} {n e : Int} {bR : Bool} (hr : GB bR T S) (h : TextR T S n r e) :
    (bR = true ∧ ∃ k : Nat, n = (k : Int) ∧ ∃ hk : k < T.length, r = T[k] ∧ e = 0) ∨ (bR = true ∧ n < 0 ∧ r = ⟨#[]⟩ ∧ e = 4) ∨ (bR = true ∧ ¬ n < 0 ∧ (T.length : Int) ≤ n ∧ r = ⟨#[]⟩ ∧ e = 4) ∨ (bR = false ∧ r = ⟨#[]⟩ ∧ e = 150) := by
  rcases hr with ⟨rfl, hg⟩ | ⟨rfl, hg⟩
  · rcases h with ⟨h1, _⟩ | ⟨_, ⟨h1, h2, h3⟩, rfl⟩ | ⟨_, h1, rfl, rfl⟩
    · exact (h1 hg).elim
    · obtain ⟨k, rfl⟩ := Int.eq_ofNat_of_zero_le h2
      simp only [Int.toNat_natCast] at h1 h3
      exact .inl ⟨rfl, k, rfl, h1, h3, rfl⟩
    · by_cases c : n < 0
      · exact .inr (.inl ⟨rfl, c, rfl, rfl⟩)
      · exact .inr (.inr (.inl ⟨rfl, c, by omega, rfl, rfl⟩))
  · rcases h with ⟨_, rfl, rfl⟩ | ⟨h1, _⟩ | ⟨h1, _⟩
    · exact .inr (.inr (.inr ⟨rfl, rfl, rfl⟩))
    · exact (hg h1).elim
    · exact (hg h1).elim
end Go.Proofs.Kit
namespace Go.Proofs.Ytfnlegnieilcbaa
open Go.RowKit Go.Proofs.Kit Go.Shelf

set_option maxRecDepth 100000 in
set_option maxHeartbeats 8000000 in
theorem tells_true (oT oS : Option Addr) (nT cT nS cS : Nat) (T : List ByteArray) (S : List Int) (oX : Option Addr) (nX cX : Nat) (tx : List ByteArray) (oN : Option Addr) (nN cN : Nat) (ns : List Int) (w : World) (hlT : T.length = nT) (hlS : S.length = nS) (hT : nT ≤ 9223372036854775807) (hS : nS ≤ 9223372036854775807)
    (aT : ArgV w oT cT (T.map Value.string)) (aS : ArgV w oS cS (S.map (Value.int .i64))) (hz : ∀ s ∈ T, s.size ≤ 9223372036854775807)
    (hlX : tx.length = nX) (hX : nX ≤ 9223372036854775807) (aX : ArgV w oX cX (tx.map Value.string)) (hzX : ∀ s ∈ tx, s.size ≤ 9223372036854775807)
    (hlN : ns.length = nN) (hN : nN ≤ 9223372036854775807) (aN : ArgV w oN cN (ns.map (Value.int .i64))) :
    Calls Try.prog 3 #[.agg #[.slice oT nT cT, .slice oS nS cS], .slice oX nX cX, .slice oN nN cN] w fun e w' => e = .returned (.bool true) ∧ Below w.heap.size w w' := by
  have AT := Lib.hid aT
  have AS := Lib.hid aS
  have AX := Lib.hid aX
  have AN := Lib.hid aN
  have HZ := Lib.hid hz
  have HZX := Lib.hid hzX
  have HLT := Lib.hid hlT
  have HLS := Lib.hid hlS
  have HLX := Lib.hid hlX
  have HLN := Lib.hid hlN
  obtain ⟨bsm, hbsm⟩ := bool_of (nT ≤ 40 ∧ nS ≤ 128)
  have HBS := Lib.hid hbsm
  clear aT aS aX aN hz hzX hlT hlS hlX hlN hbsm
  go_enter Try.func3, Try.ntmps3
  go_wp2_with fail
  obtain ⟨W1, hW1⟩ : ∃ W1, W1 = w.alloc (.cells #[.slice oT nT cT, .slice oS nS cS] 25) := ⟨_, rfl⟩
  have b1 : Below w.heap.size w W1 := by rw [hW1]; exact (Gr.alloc _ _).below
  have k1 : Blk W1 w.heap.size #[.slice oT nT cT, .slice oS nS cS] 25 := by rw [hW1]; exact Blk.new _ _ _
  rw [← hW1]
  clear hW1
  refine (wakes_any W1).mono ?_
  rintro e W2 ⟨rfl, b2⟩
  have bb2 : Below w.heap.size w W2 := b1.trans (b2.mono b1.size)
  have k2 := k1.later b2
  obtain ⟨c0, c1⟩ : W2.cell? ⟨w.heap.size, 0, none⟩ = some (.slice oT nT cT) ∧ W2.cell? ⟨w.heap.size, 1, none⟩ = some (.slice oS nS cS) := ⟨k2.cell 0, k2.cell 1⟩
  have K2 := Lib.hid k2
  clear k1 k2 b1 b2
  go_wp2_with fail
  refine (small_any oT oS nT cT nS cS W2 hT hS bsm HBS.out).mono ?_
  rintro e W3 ⟨rfl, g3⟩
  have bb3 := below_gr bb2 g3 bb2.size
  cases bsm
  · go_wp2
    go_ret
    exact ⟨rfl, bb3⟩
  · obtain ⟨h40, h128⟩ : nT ≤ 40 ∧ nS ≤ 128 := by have := HBS.out; simpa using this
    have k3 := K2.out.gr g3
    obtain ⟨c0, c1⟩ : W3.cell? ⟨w.heap.size, 0, none⟩ = some (.slice oT nT cT) ∧ W3.cell? ⟨w.heap.size, 1, none⟩ = some (.slice oS nS cS) := ⟨k3.cell 0, k3.cell 1⟩
    have K3 := Lib.hid k3
    clear k3 K2
    go_wp2_with fail
    refine (own_any oT oS nT cT nS cS T S W3 HLT.out HLS.out (by omega) (by omega) (AT.out.later bb3) (AS.out.later bb3)).mono ?_
    rintro e W4 ⟨vT, vS, rfl, oT4, oS4, b4⟩
    have bb4 : Below w.heap.size w W4 := bb3.trans (b4.mono bb3.size)
    have hTl : T.length ≤ 40 := by have := HLT.out; omega
    have hSl : S.length ≤ 128 := by have := HLS.out; omega
    have K4 := Lib.hid (K3.out.later b4)
    obtain ⟨o1, x1, rfl⟩ := oT4.shape
    obtain ⟨o2, x2, rfl⟩ := oS4.shape
    rw [List.length_map] at oT4 oS4
    rw [List.length_map, List.length_map]
    have hTB := TB.new (tt := 25) oT4.sl oS4.sl
    have HTB := Lib.hid hTB
    clear hTB oT4 oS4 c0 c1 K3
    go_upto_region 6 with (fail)
    obtain ⟨W5, hW5⟩ : ∃ W5, W5 = W4.alloc (.cells #[.slice o1 T.length x1, .slice o2 S.length x2] 25) := ⟨_, rfl⟩
    have bb5 : Below w.heap.size w W5 := by rw [hW5]; exact bb4.alloc bb4.size _
    have K5 : Hid (Blk W5 w.heap.size #[.slice oT nT cT, .slice oS nS cS] 25) := Lib.hid (by rw [hW5]; exact K4.out.alloc _)
    rw [← hW5] at HTB ⊢
    clear hW5 K4
    obtain ⟨b5, hb5'⟩ : ∃ b5, b5 = W4.heap.size := ⟨_, rfl⟩
    rw [← hb5'] at HTB ⊢
    clear hb5' b4
    obtain ⟨bR, hbR⟩ := bool_of (Kit.Good hsh T S)
    obtain ⟨r, hr⟩ := ckd_ex T S
    have hcase : (bR = true ∧ r = 0) ∨ (bR = false ∧ r = 150) := by
      rcases hr with ⟨h, e⟩ | ⟨h, e⟩
      · exact .inl ⟨hbR.2 h, e⟩
      · exact .inr ⟨bF hbR h, e⟩
    have hgd : GB bR T S := by
      by_cases h : Kit.Good hsh T S
      · exact .inl ⟨hbR.2 h, h⟩
      · exact .inr ⟨bF hbR h, h⟩
    have HBR := Lib.hid hbR
    have HR := Lib.hid hr
    have HGD := Lib.hid hgd
    clear hbR hr hgd
    obtain ⟨c0, c1⟩ := HTB.out.cells
    go_wp2_with fail
    refine (right_any _ _ T S W5 HTB.out.sT HTB.out.sS (by omega) (by omega) HZ.out bR HBR.out).mono ?_
    rintro e W6 ⟨rfl, g6⟩
    have bb6 := below_gr bb5 g6 bb5.size
    have HTB6 := Lib.hid (HTB.out.later g6.below)
    have K6 := Lib.hid (K5.out.gr g6)
    clear c0 c1 HTB K5 g6
    obtain ⟨c0, c1⟩ := HTB6.out.cells
    go_wp2_with fail
    refine (check_any _ _ T S W6 HTB6.out.sT HTB6.out.sS (by omega) (by omega) HZ.out r HR.out).mono ?_
    rintro e W7 ⟨rfl, g7⟩
    have bb7 := below_gr bb6 g7 bb6.size
    have HTB7 := Lib.hid (HTB6.out.later g7.below)
    have K7 := Lib.hid (K6.out.gr g7)
    clear c0 c1 HTB6 K6 g7 HBR HR
    rcases hcase with ⟨rfl, rfl⟩ | ⟨rfl, rfl⟩
    all_goals
      go_upto_block 0 with fail
      go_cut [46] (fun _ wx => Hid (Below W7.heap.size W7 wx))
      case first =>
        go_wp2
        go_loopw [10, 11, 12, 13, 14, 46] (fun _ _ _ _ _ i wr => ∃ k : Nat, k ≤ nX ∧ i = .int .i64 (k : Int) ∧ Hid (Below W7.heap.size W7 wr)) (fun _ _ _ _ _ i _ => nX - (intOf i).toNat)
        case atStart => exact ⟨0, Nat.zero_le _, rfl, Lib.hid (Below.refl _ _)⟩
        case round =>
          obtain ⟨k, hk, rfl, HB⟩ := hrel
          by_cases hkn : k < nX
          · have hkl : k < tx.length := by have := HLX.out; omega
            rcases AX.out with ⟨_, h, _⟩ | ⟨a, rfl, hcX⟩
            · have : tx = [] := by simpa using h
              rw [this] at hkl; simp at hkl
            · have bbr : Below w.heap.size w wr := bb7.trans (HB.out.mono bb7.size)
              have d := (bbr.cell (World.block_lt_of_cell? _ _ (hcX k (by simpa using hkl)))).trans (hcX k (by simpa using hkl))
              rw [List.getElem_map] at d
              have hsz := HZX.out _ (List.getElem_mem hkl)
              obtain ⟨s, hs⟩ : ∃ s, s = tx[k] := ⟨_, rfl⟩
              rw [← hs] at d hsz
              clear hs hcX bbr
              by_cases h10 : k = 10
              · have h10' : ((k : Int) == 10) = true := by simp; omega
                clear h10
                go_wp2
                go_meet
                exact HB
              · have h10' : ((k : Int) == 10) = false := by simp; omega
                clear h10
                have hcut := cut_any s hsz
                obtain ⟨s', hs'⟩ : ∃ s', s' = cutS s := ⟨_, rfl⟩
                have hs9 : s'.size ≤ 9223372036854775807 := by have := cutS_size s; rw [hs']; omega
                rw [← hs'] at hcut
                clear hs'
                obtain ⟨n, ok, hf⟩ := findR_ex T S s'
                obtain ⟨wn, hwn⟩ : ∃ wn, wn = fdI T s' := ⟨_, rfl⟩
                have hall := tells_find HGD.out hf hwn
                have HRF := Lib.hid (fun (v : Value) (w : World) (h : Sl w v (T.map Value.string)) => rfind_any v T s' w h)
                rw [← hwn] at HRF
                have HF := Lib.hid hf
                have HTR := Lib.hid (HTB7.out.later HB.out)
                obtain ⟨h, hh⟩ : ∃ h, h = hsh s' := ⟨_, rfl⟩
                have H1 := Lib.hid (fun w => hash_any s' hs9 w)
                have H2 := Lib.hid (fun w => rhash_any s' hs9 w)
                rw [← hh] at H1 H2
                have hhh : ((h : Int) != (h : Int)) = false := by simp
                clear hf hwn hh
                obtain ⟨c0, c1⟩ := HTR.out.cells
                rcases hall with ⟨hb, rfl, p, rfl, rfl⟩ | ⟨hb, rfl, rfl, rfl⟩ | ⟨hb, rfl, rfl⟩
                all_goals first | (cases hb; done) | skip
                all_goals
                  clear hb
                  first
                    | (have g1 : decide (0 ≤ (p : Int)) = true := by simp
                       have g2 : ((p : Int) != max (p : Int) 0) = false := by simp; omega)
                    | have gm : max (-1 : Int) 0 = 0 := rfl
                  go_wp2_with (first | (go_at_call 13; refine (hcut _).mono ?_; rintro e w' ⟨rfl, rfl⟩) | (go_at_call 14; refine (find_any _ _ T S s' hs9 _ HTR.out.sT HTR.out.sS (by omega) (by omega) HZ.out _ _ HF.out).mono ?_; rintro e w2 ⟨rfl, g⟩; obtain ⟨c0, c1⟩ := (HTR.out.later g.below).cells) | (go_at_call 15; refine (HRF.out _ _ (HTR.out.later g.below).sT).mono ?_; rintro e w3 ⟨rfl, rfl⟩) | (go_at_call 16; refine (H1.out _).mono ?_; rintro e w4 ⟨rfl, rfl⟩) | (go_at_call 17; refine (H2.out _).mono ?_; rintro e w5 ⟨rfl, d5⟩))
                  go_roundw
                  case rel =>
                    have q1 := below_gr HB.out g HB.out.size
                    exact ⟨k + 1, by omega, by go_num, Lib.hid (below_gr q1 (Gr.of_dr d5) q1.size)⟩
                  case measure => simp [intOf]; omega
          · go_wp2
            go_meet
            exact HB
      case rest =>
        rename Hid (Below W7.heap.size W7 _) => HB8
        obtain ⟨W8, rfl⟩ : ∃ x : World, x = wc := ⟨_, rfl⟩
        have bb8 : Below w.heap.size w W8 := bb7.trans (HB8.out.mono bb7.size)
        have HTB8 := Lib.hid (HTB7.out.later HB8.out)
        have K8 := Lib.hid (K7.out.later HB8.out)
        clear HTB7 K7 HB8
        go_upto_block 2 with fail
        go_cut [86] (fun _ wx => Hid (Below W8.heap.size W8 wx))
        case first =>
          go_wp2
          go_loopw [15, 16, 17, 18, 19, 20, 86] (fun _ _ _ _ _ _ i wr => ∃ k : Nat, k ≤ nN ∧ i = .int .i64 (k : Int) ∧ Hid (Below W8.heap.size W8 wr)) (fun _ _ _ _ _ _ i _ => nN - (intOf i).toNat)
          case atStart => exact ⟨0, Nat.zero_le _, rfl, Lib.hid (Below.refl _ _)⟩
          case round =>
            obtain ⟨k, hk, rfl, HB⟩ := hrel
            by_cases hkn : k < nN
            · have hkl : k < ns.length := by have := HLN.out; omega
              rcases AN.out with ⟨_, h, _⟩ | ⟨a, rfl, hcX⟩
              · have : ns = [] := by simpa using h
                rw [this] at hkl; simp at hkl
              · have bbr : Below w.heap.size w wr := bb8.trans (HB.out.mono bb8.size)
                have d := (bbr.cell (World.block_lt_of_cell? _ _ (hcX k (by simpa using hkl)))).trans (hcX k (by simpa using hkl))
                rw [List.getElem_map] at d
                obtain ⟨n, hn⟩ : ∃ n, n = ns[k] := ⟨_, rfl⟩
                rw [← hn] at d
                clear hn hcX bbr
                by_cases h10 : k = 10
                · have h10' : ((k : Int) == 10) = true := by simp; omega
                  clear h10
                  go_wp2
                  go_meet
                  exact HB
                · have h10' : ((k : Int) == 10) = false := by simp; omega
                  clear h10
                  obtain ⟨r, e', hx⟩ := textR_ex T S n
                  have hall := tells_text HGD.out hx
                  have HX := Lib.hid hx
                  have HTR := Lib.hid (HTB8.out.later HB.out)
                  obtain ⟨q, hq⟩ : ∃ q, q = T.length := ⟨_, rfl⟩
                  have HQ := Lib.hid hq
                  clear hx
                  obtain ⟨c0, c1⟩ := HTR.out.cells
                  have hrr : (r.toList == r.toList) = true := eq_s rfl
                  rcases hall with ⟨hb, m, rfl, hm, hr, rfl⟩ | ⟨hb, hn0, rfl, rfl⟩ | ⟨hb, hn0, hnq, rfl, rfl⟩ | ⟨hb, rfl, rfl⟩
                  all_goals first | (cases hb; done) | skip
                  all_goals
                    clear hb
                    first
                      | (have g1 : decide (0 ≤ (m : Int)) = true := by simp
                         have g2 : decide ((m : Int) < (q : Int)) = true := by simp; omega
                         have g3 : (m : Int) < (q : Int) := by omega
                         obtain ⟨bL, fL, e1, hbL, hcL⟩ := HTR.out.sT.at hm
                         cases e1
                         rw [← hr] at hcL)
                      | (have g1 : decide (0 ≤ n) = true := by simp; omega
                         have g2 : decide (n < (q : Int)) = false := by simp; omega)
                      | (have g1 : decide (0 ≤ n) = false := by simp; omega)
                      | skip
                    rw [← hq] at HTR c0
                    clear hq
                    go_wp2_with (go_at_call 18; refine (texts_any _ _ T S _ HTR.out.sT HTR.out.sS (by omega) (by omega) HZ.out _ _ _ HX.out).mono ?_; rintro e w2 ⟨rfl, g⟩; obtain ⟨c0, c1⟩ := (HTR.out.later g.below).cells; first | have hcL := (g.below.cell hbL).trans hcL | skip)
                    go_roundw
                    case rel => exact ⟨k + 1, by omega, by go_num, Lib.hid (below_gr HB.out g HB.out.size)⟩
                    case measure => simp [intOf]; omega
            · go_wp2
              go_meet
              exact HB
        case rest =>
          rename Hid (Below W8.heap.size W8 _) => HB9
          obtain ⟨W9, rfl⟩ : ∃ x : World, x = wc := ⟨_, rfl⟩
          have bb9 : Below w.heap.size w W9 := bb8.trans (HB9.out.mono bb8.size)
          have HTB9 := Lib.hid (HTB8.out.later HB9.out)
          have k9 := K8.out.later HB9.out
          obtain ⟨c0, c1⟩ := HTB9.out.cells
          obtain ⟨x0, x1⟩ : W9.cell? ⟨w.heap.size, 0, none⟩ = some (.slice oT nT cT) ∧ W9.cell? ⟨w.heap.size, 1, none⟩ = some (.slice oS nS cS) := ⟨k9.cell 0, k9.cell 1⟩
          go_wp2_with fail
          refine (same_raw _ _ oT oS nT cT nS cS T S W9 HTB9.out.sT HTB9.out.sS HLT.out HLS.out (AT.out.later bb9) (AS.out.later bb9)).mono ?_
          rintro e w10 ⟨rfl, g10⟩
          go_wp2
          go_ret
          exact ⟨rfl, below_gr bb9 g10 bb9.size⟩
end Go.Proofs.Ytfnlegnieilcbaa
