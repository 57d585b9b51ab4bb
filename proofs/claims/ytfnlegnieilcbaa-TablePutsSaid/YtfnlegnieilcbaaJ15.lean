/- TableKeeps: the law's walk. -/
import Derived.Test.YtfnlegnieilcbaaJ14
namespace Go.Proofs.Kit
open Go.RowKit
section
variable {α : Type} [DecidableEq α] {T : List α}
theorem pos_new {s : α} (h : s ∉ T) : pos (T ++ [s]) s = T.length := by
  unfold pos
  rw [List.idxOf_append, if_neg h]
  simp
theorem get_of_pos {s : α} {k : Nat} (h : s ∈ T) (hp : pos T s = k) : ∃ hk : k < T.length, T[k] = s := by subst hp; exact ⟨pos_lt h, pos_get h⟩
theorem pos_at (hT : T.Nodup) {i : Nat} (hi : i < T.length) : pos T T[i] = i := by
  have h := pos_lt (List.getElem_mem hi)
  have e := pos_get (List.getElem_mem hi)
  exact (List.getElem_inj hT).1 e
end
/-- A table at its record. -/
structure TB (tt : TypeId) (b : Nat) (vT vS : Value) (T : List ByteArray) (S : List Int) (W : World) : Prop where
  kb : Blk W b #[vT, vS] tt
  sT : Sl W vT (T.map Value.string)
  sS : Sl W vS (S.map (Value.int .i64))
section
variable {tt : TypeId} {b : Nat} {vT vS : Value} {T : List ByteArray} {S : List Int} {W W' : World}
theorem TB.later (h : TB tt b vT vS T S W) (g : Below W.heap.size W W') : TB tt b vT vS T S W' := ⟨h.kb.later g, h.sT.later g, h.sS.later g⟩
theorem TB.cells (h : TB tt b vT vS T S W) : W.cell? ⟨b, 0, none⟩ = some vT ∧ W.cell? ⟨b, 1, none⟩ = some vS := ⟨h.kb.cell 0, h.kb.cell 1⟩
theorem TB.new {w : World} (sT : Sl w vT (T.map Value.string)) (sS : Sl w vS (S.map (Value.int .i64))) : TB tt w.heap.size vT vS T S (w.alloc (.cells #[vT, vS] tt)) := ⟨Blk.new _ _ _, sT.alloc _, sS.alloc _⟩
end
/-- What Put makes of the texts, once it may. -/
def PutT (T : List ByteArray) (s : ByteArray) (T' : List ByteArray) (k : Nat) : Prop := (s ∈ T ∧ T' = T ∧ k = pos T s) ∨ (s ∉ T ∧ T.length ≠ 1024 ∧ T' = T ++ [s] ∧ k = T.length)
theorem PutT.mem {T T' : List ByteArray} {s : ByteArray} {k : Nat} (h : PutT T s T' k) : s ∈ T' ∧ pos T' s = k := by
  rcases h with ⟨h1, rfl, rfl⟩ | ⟨h1, _, rfl, rfl⟩
  · exact ⟨h1, rfl⟩
  · exact ⟨by simp, pos_new h1⟩
theorem PutT.old {T T' : List ByteArray} {s : ByteArray} {k : Nat} (h : PutT T s T' k) {i : Nat} (hi : i < T.length) : ∃ hi' : i < T'.length, T'[i] = T[i] := by
  rcases h with ⟨h1, rfl, rfl⟩ | ⟨h1, _, rfl, rfl⟩
  · exact ⟨hi, rfl⟩
  · exact ⟨by simp; omega, by rw [List.getElem_append_left hi]⟩
theorem PutT.len {T T' : List ByteArray} {s : ByteArray} {k : Nat} (h : PutT T s T' k) : T'.length ≤ T.length + 1 := by
  rcases h with ⟨h1, rfl, rfl⟩ | ⟨h1, _, rfl, rfl⟩ <;> simp
theorem PutT.sizes {T T' : List ByteArray} {s : ByteArray} {k : Nat} (h : PutT T s T' k) (hz : ∀ x ∈ T, x.size ≤ 9223372036854775807) (hs : s.size ≤ 9223372036854775807) : ∀ x ∈ T', x.size ≤ 9223372036854775807 := by
  rcases h with ⟨h1, rfl, rfl⟩ | ⟨h1, _, rfl, rfl⟩
  · exact hz
  · intro x hx
    rcases List.mem_append.1 hx with hx | hx
    · exact hz x hx
    · rw [List.mem_singleton] at hx; rw [hx]; exact hs
end Go.Proofs.Kit
namespace Go.Proofs.Ytfnlegnieilcbaa
open Go.RowKit Go.Proofs.Kit Go.Shelf

set_option maxRecDepth 100000 in
set_option maxHeartbeats 8000000 in
theorem keeps_true (oT oS : Option Addr) (nT cT nS cS : Nat) (T : List ByteArray) (S : List Int) (s0 : ByteArray) (w : World) (hlT : T.length = nT) (hlS : S.length = nS) (hT : nT ≤ 9223372036854775807) (hS : nS ≤ 9223372036854775807)
    (aT : ArgV w oT cT (T.map Value.string)) (aS : ArgV w oS cS (S.map (Value.int .i64))) (hz : ∀ s ∈ T, s.size ≤ 9223372036854775807) (hs0 : s0.size ≤ 9223372036854775807) :
    Calls Try.prog 6 #[.agg #[.slice oT nT cT, .slice oS nS cS], .string s0] w fun e w' => e = .returned (.bool true) ∧ Below w.heap.size w w' := by
  have AT := Lib.hid aT
  have AS := Lib.hid aS
  have HZ := Lib.hid hz
  have HLT := Lib.hid hlT
  have HLS := Lib.hid hlS
  obtain ⟨bsm, hbsm⟩ := bool_of (nT ≤ 40 ∧ nS ≤ 128)
  have HBS := Lib.hid hbsm
  clear aT aS hz hlT hlS hbsm
  go_enter Try.func6, Try.ntmps6
  go_wp2_with fail
  obtain ⟨W1, hW1⟩ : ∃ W1, W1 = w.alloc (.cells #[.slice oT nT cT, .slice oS nS cS] 25) := ⟨_, rfl⟩
  have b1 : Below w.heap.size w W1 := by rw [hW1]; exact (Gr.alloc _ _).below
  have k1 : Blk W1 w.heap.size #[.slice oT nT cT, .slice oS nS cS] 25 := by rw [hW1]; exact Blk.new _ _ _
  rw [← hW1]
  clear hW1
  refine (wakes_any W1).mono ?_
  rintro e W2 ⟨rfl, b2⟩
  have bb2 : Below w.heap.size w W2 := b1.trans (b2.mono b1.size)
  have k2 := k1.later b2
  obtain ⟨c0, c1⟩ : W2.cell? ⟨w.heap.size, 0, none⟩ = some (.slice oT nT cT) ∧ W2.cell? ⟨w.heap.size, 1, none⟩ = some (.slice oS nS cS) := ⟨k2.cell 0, k2.cell 1⟩
  have K2 := Lib.hid k2
  clear k1 k2 b1 b2
  go_wp2_with fail
  refine (small_any oT oS nT cT nS cS W2 hT hS bsm HBS.out).mono ?_
  rintro e W3 ⟨rfl, g3⟩
  have bb3 := below_gr bb2 g3 bb2.size
  cases bsm
  · go_wp2
    go_ret
    exact ⟨rfl, bb3⟩
  · obtain ⟨h40, h128⟩ : nT ≤ 40 ∧ nS ≤ 128 := by have := HBS.out; simpa using this
    have k3 := K2.out.gr g3
    obtain ⟨c0, c1⟩ : W3.cell? ⟨w.heap.size, 0, none⟩ = some (.slice oT nT cT) ∧ W3.cell? ⟨w.heap.size, 1, none⟩ = some (.slice oS nS cS) := ⟨k3.cell 0, k3.cell 1⟩
    clear k3
    go_wp2_with fail
    refine (own_any oT oS nT cT nS cS T S W3 HLT.out HLS.out (by omega) (by omega) (AT.out.later bb3) (AS.out.later bb3)).mono ?_
    rintro e W4 ⟨vT, vS, rfl, oT4, oS4, b4⟩
    have bb4 : Below w.heap.size w W4 := bb3.trans (b4.mono bb3.size)
    have hTl : T.length ≤ 40 := by have := HLT.out; omega
    have hSl : S.length ≤ 128 := by have := HLS.out; omega
    obtain ⟨o1, x1, rfl⟩ := oT4.shape
    obtain ⟨o2, x2, rfl⟩ := oS4.shape
    rw [List.length_map] at oT4 oS4
    rw [List.length_map, List.length_map]
    have hTB := TB.new (tt := 25) oT4.sl oS4.sl
    have HTB := Lib.hid hTB
    clear hTB oT4 oS4 c0 c1
    obtain ⟨s, hs⟩ : ∃ s, s = cutS s0 := ⟨_, rfl⟩
    have hs60 : s.size ≤ 60 := by rw [hs]; exact cutS_size s0
    have hcut := cut_any s0 hs0
    rw [← hs] at hcut
    clear hs
    go_wp2_with (go_at_call 13; refine (hcut _).mono ?_; rintro e w' ⟨rfl, rfl⟩)
    obtain ⟨W5, hW5⟩ : ∃ W5, W5 = W4.alloc (.cells #[.slice o1 T.length x1, .slice o2 S.length x2] 25) := ⟨_, rfl⟩
    have bb5 : Below w.heap.size w W5 := by rw [hW5]; exact bb4.alloc bb4.size _
    have hb5 : W4.heap.size < W5.heap.size := by rw [hW5]; simp
    rw [← hW5] at HTB ⊢
    clear hW5
    obtain ⟨b5, hb5'⟩ : ∃ b5, b5 = W4.heap.size := ⟨_, rfl⟩
    rw [← hb5'] at HTB hb5 ⊢
    clear hb5'
    have hs63 : s.size ≤ 9223372036854775807 := by omega
    refine (put_any _ _ T S s hs63 W5 HTB.out.sT HTB.out.sS (by omega) (by omega) HZ.out).mono ?_
    rintro e W6 (⟨_, h, hb⟩ | ⟨_, hg, hs, hT, hb⟩ | ⟨_, T', k, vT', vS', vN', hg, hk, ha⟩)
    · have bb6 := bb5.trans (hb.mono bb5.size)
      clear h hb
      go_wp2
      go_ret
      exact ⟨rfl, bb6.alloc bb6.size _⟩
    · have bb6 := bb5.trans (hb.mono bb5.size)
      clear hs hT hb hg
      go_wp2
      go_ret
      exact ⟨rfl, bb6.alloc bb6.size _⟩
    · have bb6 : Below w.heap.size w W6 := bb5.trans (ha.low.mono bb5.size)
      have hTB6 := HTB.out.later ha.low
      obtain ⟨S', p1, p2, p3, p4⟩ := ha.ex
      have hPT : PutT T s T' k := hk
      have hT'l : T'.length ≤ 41 := by have := hPT.len; omega
      have hS'l : S'.length ≤ 4096 := by omega
      have hz' := hPT.sizes HZ.out hs63
      obtain ⟨o3, x3, rfl⟩ := p1.shape
      obtain ⟨o4, x4, rfl⟩ := p2.shape
      rw [List.length_map] at p1 p2
      rw [List.length_map, List.length_map]
      have hTC := TB.new (tt := 25) p1.sl p2.sl
      have HG' := Lib.hid p3
      have HG := Lib.hid hg
      have HPT := Lib.hid hPT
      have HZ' := Lib.hid hz'
      obtain ⟨W7, hW7⟩ : ∃ W7, W7 = W6.alloc (.cells #[.slice o3 T'.length x3, .slice o4 S'.length x4] 25) := ⟨_, rfl⟩
      have g7 : Gr W6 W7 := by rw [hW7]; exact Gr.alloc _ _
      have bb7 := below_gr bb6 g7 bb6.size
      obtain ⟨b7, hb7⟩ : ∃ b7, b7 = W6.heap.size := ⟨_, rfl⟩
      rw [← hW7, ← hb7] at hTC
      have HTC := Lib.hid hTC
      have HTB7 := Lib.hid (hTB6.later g7.below)
      clear hTC hTB6 ha p1 p2 p3 p4 hg hk hPT hz' g7 HTB
      go_upto_region 10 with (fail)
      rw [← hW7, ← hb7]
      clear hW7 hb7
      obtain ⟨c0, c1⟩ := HTC.out.cells
      have hmem := HPT.out.mem
      have HME := Lib.hid hmem
      clear hmem
      go_wp2_with fail
      refine (find_any _ _ T' S' s hs63 W7 HTC.out.sT HTC.out.sS (by omega) (by omega) HZ'.out (k : Int) true (.inl ⟨HG'.out, HME.out.1, by rw [HME.out.2], rfl⟩)).mono ?_
      rintro e W8 ⟨rfl, g8⟩
      have HTC8 := Lib.hid (HTC.out.later g8.below)
      have bb8 := below_gr bb7 g8 bb7.size
      have HTB8 := Lib.hid (HTB7.out.later g8.below)
      obtain ⟨c0, c1⟩ := HTC8.out.cells
      have htx : TextR T' S' (k : Int) s 0 := by
        obtain ⟨hlt, hge⟩ := get_of_pos HME.out.1 HME.out.2
        exact .inr (.inl ⟨HG'.out, ⟨by rw [Int.toNat_natCast]; exact hlt, by omega, by simp only [Int.toNat_natCast]; exact hge.symm⟩, rfl⟩)
      have HTX := Lib.hid htx
      clear htx g8 HTC HTB7
      go_wp2_with fail
      refine (texts_any _ _ T' S' W8 HTC8.out.sT HTC8.out.sS (by omega) (by omega) HZ'.out (k : Int) s 0 HTX.out).mono ?_
      rintro e W9 ⟨rfl, g9⟩
      have HTC9 := Lib.hid (HTC8.out.later g9.below)
      have bb9 := below_gr bb8 g9 bb8.size
      have HTB9 := Lib.hid (HTB8.out.later g9.below)
      obtain ⟨c0, c1⟩ := HTC9.out.cells
      clear g9 HTC8 HTB8 HTX
      go_wp2_with fail
      refine (put_any _ _ T' S' s hs63 W9 HTC9.out.sT HTC9.out.sS (by omega) (by omega) HZ'.out).mono ?_
      rintro e W10 (⟨_, h, hb⟩ | ⟨_, hg, hs, hT, hb⟩ | ⟨_, T2, k2, vT2, vS2, vN2, hg, hk, ha⟩)
      · exact (h HG'.out).elim
      · exact (hs HME.out.1).elim
      · obtain ⟨rfl, rfl⟩ : T2 = T' ∧ k2 = k := by
          rcases hk with ⟨_, h2, h3⟩ | ⟨h1, _⟩
          · exact ⟨h2, by rw [h3]; exact HME.out.2⟩
          · exact (h1 HME.out.1).elim
        have bb10 : Below w.heap.size w W10 := bb9.trans (ha.low.mono bb9.size)
        have hTB10 := HTB9.out.later ha.low
        have hTC10 := HTC9.out.later ha.low
        obtain ⟨S2, p1, p2, p3, p4⟩ := ha.ex
        have hS2l : S2.length ≤ 4096 := by omega
        obtain ⟨o5, x5, rfl⟩ := p1.shape
        obtain ⟨o6, x6, rfl⟩ := p2.shape
        rw [List.length_map] at p1 p2
        rw [List.length_map, List.length_map]
        have hTD := TB.new (tt := 25) p1.sl p2.sl
        have HG2 := Lib.hid p3
        obtain ⟨W11, hW11⟩ : ∃ W11, W11 = W10.alloc (.cells #[.slice o5 T2.length x5, .slice o6 S2.length x6] 25) := ⟨_, rfl⟩
        have g11 : Gr W10 W11 := by rw [hW11]; exact Gr.alloc _ _
        have bb11 := below_gr bb10 g11 bb10.size
        obtain ⟨b11, hb11⟩ : ∃ b11, b11 = W10.heap.size := ⟨_, rfl⟩
        rw [← hW11, ← hb11] at hTD
        have HTD := Lib.hid hTD
        have HTB11 := Lib.hid (hTB10.later g11.below)
        have HTC11 := Lib.hid (hTC10.later g11.below)
        clear hTD hTB10 hTC10 ha p1 p2 p3 p4 hg hk g11 HTB9 HTC9
        go_upto_region 13 with (fail)
        rw [← hW11, ← hb11]
        clear hW11 hb11
        obtain ⟨c0, c1⟩ := HTC11.out.cells
        obtain ⟨d0, d1⟩ := HTD.out.cells
        have hss : (s.toList == s.toList) = true := eq_s rfl
        go_wp2_with fail
        refine (equals_sl _ _ T2 T2 W11 HTD.out.sT HTC11.out.sT).mono ?_
        rw [decide_eq_true (rfl : T2 = T2)]
        rintro e W12 ⟨rfl, g12⟩
        have G12 := Gr.of_dr g12
        have bb12 := below_gr bb11 G12 bb11.size
        have HTB12 := Lib.hid (HTB11.out.later G12.below)
        have HTC12 := Lib.hid (HTC11.out.later G12.below)
        have HTD12 := Lib.hid (HTD.out.later G12.below)
        obtain ⟨c0, c1⟩ := HTC12.out.cells
        clear G12 g12 HTB11 HTC11 HTD d0 d1
        go_wp2_with fail
        refine (check_any _ _ T2 S' W12 HTC12.out.sT HTC12.out.sS (by omega) (by omega) HZ'.out 0 (.inl ⟨HG'.out, rfl⟩)).mono ?_
        rintro e W13 ⟨rfl, g13⟩
        have bb13 := below_gr bb12 g13 bb12.size
        have HTB13 := Lib.hid (HTB12.out.later g13.below)
        have HTC13 := Lib.hid (HTC12.out.later g13.below)
        have HTD13 := Lib.hid (HTD12.out.later g13.below)
        obtain ⟨d0, d1⟩ := HTD13.out.cells
        clear g13 HTB12 HTC12 HTD12
        go_wp2_with fail
        refine (check_any _ _ T2 S2 W13 HTD13.out.sT HTD13.out.sS (by omega) (by omega) HZ'.out 0 (.inl ⟨HG2.out, rfl⟩)).mono ?_
        rintro e W14 ⟨rfl, g14⟩
        have bb14 := below_gr bb13 g14 bb13.size
        have HTB14 := Lib.hid (HTB13.out.later g14.below)
        have HTC14 := Lib.hid (HTC13.out.later g14.below)
        clear g14 HTB13 HTC13 HTD13 d0 d1 HG2
        obtain ⟨t0, t1⟩ := HTB14.out.cells
        have hold := fun i (hi : i < T.length) => HPT.out.old hi
        have HOLD := Lib.hid hold
        obtain ⟨q, hq⟩ : ∃ q, q = T.length := ⟨_, rfl⟩
        have HQ := Lib.hid hq
        rw [← hq] at t0 hTl HTB14 ⊢
        clear hold hq
        go_wp2
        clear c0 c1 t0 t1
        go_loopw [16, 17, 18, 19, 113] (fun _ _ _ _ i wr => ∃ j : Nat, j ≤ q ∧ i = .int .i64 (j : Int) ∧ Below W14.heap.size W14 wr) (fun _ _ _ _ i _ => q - (intOf i).toNat)
        case atStart => exact ⟨0, Nat.zero_le _, rfl, Below.refl _ _⟩
        case round =>
          obtain ⟨j, hj, rfl, hB⟩ := hrel
          have hTBr := HTB14.out.later hB
          have hTCr := HTC14.out.later hB
          obtain ⟨c0, c1⟩ := hTCr.cells
          obtain ⟨t0, t1⟩ := hTBr.cells
          by_cases hjq : j < q
          · have hjT : j < T.length := by have := HQ.out; omega
            obtain ⟨bL, fL, rfl, hbL, hcL⟩ := hTBr.sT.at hjT
            obtain ⟨hi', he'⟩ := HOLD.out j hjT
            have hfind : FindR T2 S' T[j] (j : Int) true := .inl ⟨HG'.out, by rw [← he']; exact List.getElem_mem _, by rw [← he', pos_at HG'.out.nodup hi'], rfl⟩
            have hsz := HZ.out _ (List.getElem_mem hjT)
            obtain ⟨y, hy⟩ : ∃ y, y = T[j] := ⟨_, rfl⟩
            rw [← hy] at hcL hfind hsz
            have HFI := Lib.hid hfind
            have HTR := Lib.hid hTCr
            clear hy he' hfind hTCr hTBr
            go_wp2_with (go_at_call 14; refine (find_any _ _ T2 S' y hsz _ HTR.out.sT HTR.out.sS (by omega) (by omega) HZ'.out (j : Int) true HFI.out).mono ?_; rintro e w' ⟨rfl, g⟩)
            go_roundw
            case rel => exact ⟨j + 1, by omega, by go_num, hB.trans (g.below.mono hB.size)⟩
            case measure => simp [intOf]; omega
          · obtain rfl : j = q := by omega
            have bbr : Below w.heap.size w wr := bb14.trans (hB.mono bb14.size)
            have HTBr := Lib.hid hTBr
            have HTCr := Lib.hid hTCr
            clear hTCr hTBr
            obtain ⟨n9, ok9, hf9⟩ := findR_ex T S s
            have HF9 := Lib.hid hf9
            clear hf9
            have hlen : (ok9 = true ∧ T2.length = j) ∨ (ok9 = false ∧ T2.length = j + 1) := by
              rcases HF9.out with ⟨_, h2, _, h4⟩ | ⟨h2, _, h4⟩
              · rcases HPT.out with ⟨_, h6, _⟩ | ⟨h5, _⟩
                · exact .inl ⟨h4, by rw [h6, HQ.out]⟩
                · exact (h5 h2).elim
              · rcases HPT.out with ⟨h5, _⟩ | ⟨_, _, h6, _⟩
                · exact (h2 ⟨HG.out, h5⟩).elim
                · exact .inr ⟨h4, by rw [h6, HQ.out]; simp⟩
            obtain ⟨q2, hq2⟩ : ∃ q2, q2 = T2.length := ⟨_, rfl⟩
            rw [← hq2] at hlen c0 HTCr ⊢
            clear hq2
            go_wp2_with fail
            refine (find_any _ _ T S s hs63 wr HTBr.out.sT HTBr.out.sS (by omega) (by have := HQ.out; omega) HZ.out n9 ok9 HF9.out).mono ?_
            rintro e w9 ⟨rfl, g⟩
            have bb9 := below_gr bbr g bbr.size
            have HTCs := HTCr.out.later g.below
            have HTBs := HTBr.out.later g.below
            clear c0 c1 t0 t1
            obtain ⟨c0, c1⟩ := HTCs.cells
            obtain ⟨t0, t1⟩ := HTBs.cells
            clear HTCs HTBs g HTCr HTBr HF9
            rcases hlen with ⟨rfl, rfl⟩ | ⟨rfl, rfl⟩
            · go_wp2
              go_ret
              exact ⟨rfl, bb9⟩
            · have e9 : (((j + 1 : Nat) : Int) == (j : Int) + 1) = true := by rw [beq_iff_eq]; omega
              have w9' : IntKind.i64.wrap ((j : Int) + 1) = (j : Int) + 1 := by rw [IntKind.wrap_i64]; omega
              go_wp2
              go_ret
              exact ⟨rfl, bb9⟩
end Go.Proofs.Ytfnlegnieilcbaa
