/- TableFull: 1024 texts. -/
import Derived.Test.YtfnlegnieilcbaaJ23
import Derived.Laws.BytesString
namespace Go.Proofs.Kit
open Go.RowKit
/-- A text of three bytes. -/
def of3 (a b c : Int) : ByteArray := ⟨#[UInt8.ofNat a.toNat, UInt8.ofNat b.toNat, UInt8.ofNat c.toNat]⟩
/-- The k-th text. -/
def txt (k : Nat) : ByteArray := of3 (97 + (k % 26 : Nat)) (97 + (k / 26 % 26 : Nat)) (97 + (k / 676 : Nat))
theorem txt_is (k : Nat) : of3 (97 + (k : Int) % 26) (97 + (k : Int) / 26 % 26) (97 + (k : Int) / 676) = txt k := by
  unfold txt
  simp
theorem txt_inj {i j : Nat} (hi : i < 1024) (hj : j < 1024) (h : txt i = txt j) : i = j := by
  unfold txt of3 at h
  have key : ∀ x y : Nat, x < 100 → y < 100 → UInt8.ofNat (97 + (x : Int)).toNat = UInt8.ofNat (97 + (y : Int)).toNat → x = y := by
    intro x y hx hy e
    have := congrArg UInt8.toNat e
    simp only [UInt8.toNat_ofNat'] at this
    omega
  simp only [ByteArray.mk.injEq] at h
  have h' := congrArg Array.toList h
  simp only [List.cons.injEq, and_true] at h'
  have h1 := key _ _ (by omega) (by omega) h'.1
  have h2 := key _ _ (by omega) (by omega) h'.2.1
  have h3 := key _ _ (by omega) (by omega) h'.2.2
  omega
/-- The first k texts. -/
def txs (k : Nat) : List ByteArray := (List.range k).map txt
theorem txs_len (k : Nat) : (txs k).length = k := by simp [txs]
theorem txs_succ (k : Nat) : txs (k + 1) = txs k ++ [txt k] := by simp [txs, List.range_succ]
theorem txs_size (k : Nat) : ∀ s ∈ txs k, s.size ≤ 3 := by
  intro s hs
  obtain ⟨i, _, rfl⟩ := List.mem_map.1 hs
  exact Nat.le_refl _
theorem txs_nodup {k : Nat} (hk : k ≤ 1024) : (txs k).Nodup := by
  unfold List.Nodup
  rw [List.pairwise_iff_getElem]
  intro i j hi hj hij e
  rw [txs_len] at hi hj
  simp only [txs, List.getElem_map, List.getElem_range] at e
  have := txt_inj (by omega) (by omega) e
  omega
end Go.Proofs.Kit
namespace Go.Proofs.Ytfnlegnieilcbaa
open Go.RowKit Go.Proofs.Kit Go.Shelf
theorem conv3 (W : World) (a b c : Int) : (convert 50 9 (.slice (some ⟨W.heap.size, 0, none⟩) 3 3)).run Try.prog (W.alloc (.cells #[.int .u8 a, .int .u8 b, .int .u8 c] 5)) = .ok (.string (of3 a b c)) (W.alloc (.cells #[.int .u8 a, .int .u8 b, .int .u8 c] 5)) := by
  rw [run_convert_bytes_string _ 50 9 5 _ _ _ (by kernel_rfl) (by kernel_rfl) (by kernel_rfl)]
  have hB := Blk.new W #[.int .u8 a, .int .u8 b, .int .u8 c] 5
  have hl : (loadCells ⟨W.heap.size, 0, none⟩ 3).run Try.prog (W.alloc (.cells #[.int .u8 a, .int .u8 b, .int .u8 c] 5)) = .ok ([a, b, c].map (Value.int .u8)).toArray (W.alloc (.cells #[.int .u8 a, .int .u8 b, .int .u8 c] 5)) := by
    have := run_loadCells_list (P := Try.prog) (w := W.alloc (.cells #[.int .u8 a, .int .u8 b, .int .u8 c] 5)) ⟨W.heap.size, 0, none⟩ ([a, b, c].map (Value.int .u8)) (fun j v hj => by
      rw [Addr.add_lit, hB.cell]
      simpa using hj)
    simpa using this
  rw [run_bytesToString _ _ _ _ _ hl, foldl_push_bytes]
  simp [of3]
set_option maxRecDepth 100000 in
set_option maxHeartbeats 8000000 in
theorem full_true (s0 : ByteArray) (n : Int) (w : World) (hs0 : s0.size ≤ 9223372036854775807) :
    Calls Try.prog 5 #[.string s0, .int .i64 n] w fun e w' => e = .returned (.bool true) ∧ Below w.heap.size w w' := by
  obtain ⟨i0, hi, hz0, hz1, hz2⟩ := infos
  have hcut := cut_any s0 hs0
  have hs60 := cutS_size s0
  obtain ⟨s, hs⟩ : ∃ s, s = cutS s0 := ⟨_, rfl⟩
  rw [← hs] at hcut hs60
  clear hs
  have hconv := conv3
  go_enter Try.func5, Try.ntmps5
  go_wp2_with fail
  refine (wakes_any w).mono ?_
  rintro e W2 ⟨rfl, b2⟩
  go_wp2
  go_loopw [5, 6, 18] (fun v _ i wr => ∃ k : Nat, k ≤ 1024 ∧ i = .int .i64 (k : Int) ∧ Hid (Ow 9 W2.heap.size wr v ((txs k).map Value.string)) ∧ Below W2.heap.size W2 wr) (fun _ _ i _ => 1024 - (intOf i).toNat)
  case atStart => exact ⟨0, Nat.zero_le _, rfl, Lib.hid (Ow.nil _ _ _), Below.refl _ _⟩
  case round =>
    obtain ⟨k, hk, rfl, hO, hB⟩ := hrel
    by_cases hkn : k < 1024
    · have HOA := Lib.hid (fun o1 o2 => (hO.out.alloc o1).alloc o2)
      obtain ⟨ov, xv, ev⟩ := hO.out.shape
      rw [List.length_map, txs_len] at ev
      subst ev
      have hx : Value.string (of3 (97 + (k : Int) % 26) (97 + (k : Int) / 26 % 26) (97 + (k : Int) / 676)) = Value.string (txt k) := by rw [txt_is]
      have HX := Lib.hid hx
      clear hx
      go_wp2_with (at_builtin; refine wpList_append_sl rfl _ _ 22 rfl W2.heap.size 9 i0 (.string ⟨#[]⟩) 16 Try.underlying22 hi hz0 hz1 hz2 rfl _ _ rfl (HOA.out _ _) _ [.string (of3 (97 + (k : Int) % 26) (97 + (k : Int) / 26 % 26) (97 + (k : Int) / 676))] rfl ?qa ?qb ?qc ?qd ?qe ?_)
      case qa => exact Sl.of_blk (l := [.string (of3 (97 + (k : Int) % 26) (97 + (k : Int) / 26 % 26) (97 + (k : Int) / 676))]) (by have := Blk.new (wr.alloc (.cells #[.int .u8 (97 + (k : Int) % 26), .int .u8 (97 + (k : Int) / 26 % 26), .int .u8 (97 + (k : Int) / 676)] 5)) #[.string (of3 (97 + (k : Int) % 26) (97 + (k : Int) / 26 % 26) (97 + (k : Int) / 676))] 9; simpa using this) (by simp) (by simp) (by simp)
      case qb => simp [Value.oneCell']
      case qc => simp [txs_len]; omega
      case qd => simp [txs_len]; omega
      case qe => simp; have := hB.size; omega
      rw [HX.out, show (txs k).map Value.string ++ [Value.string (txt k)] = (txs (k + 1)).map Value.string by rw [txs_succ]; simp]
      intro v2 w2 hO2 hG2
      have hB2 : Below W2.heap.size W2 w2 := ((hB.alloc hB.size _).alloc (by simp; have := hB.size; omega) _).grown hG2 (by simp; have := hB.size; omega) (fun g hg => (hO.out.lt g hg).1)
      have HO2 := Lib.hid hO2
      clear hO2 hG2 HOA
      go_wp2
      go_roundw
      case rel => exact ⟨k + 1, by omega, by go_num, HO2, hB2⟩
      case measure => simp [intOf]; omega
    · have HK : Hid (k = 1024) := Lib.hid (by omega)
      have bb3 : Below w.heap.size w wr := b2.trans (hB.mono b2.size)
      have hnd := txs_nodup hk
      have hz : ∀ s ∈ txs k, s.size ≤ 9223372036854775807 := fun s hs => by have := txs_size k s hs; omega
      have hlen := txs_len k
      obtain ⟨T, hT⟩ : ∃ T, T = txs k := ⟨_, rfl⟩
      rw [← hT] at hO hnd hz hlen
      obtain ⟨ov, xv, ev⟩ := hO.out.shape
      rw [List.length_map, hlen] at ev
      subst ev
      have hlay : ∀ W, Sl W (.slice ov k xv) (T.map Value.string) → Calls Try.prog 25 #[.slice ov k xv, .int .i64 2048] W fun e w' => ∃ vS' S', e = .returned (.agg #[.slice ov k xv, vS']) ∧ Ow 3 W.heap.size w' vS' (S'.map (Value.int .i64)) ∧ S'.length = 2048 ∧ Part hsh T S' T.length ∧ Below W.heap.size W w' := fun W h => rlay_any _ T 2048 W h (by omega) (by omega) hnd hz
      have HND := Lib.hid hnd
      have HZ := Lib.hid hz
      have HLEN := Lib.hid hlen
      clear hnd hz hT hlen
      go_wp2_with fail
      refine (hlay wr hO.out.sl).mono ?_
      rintro e W4 ⟨vS, S, rfl, hS, hSl, hP, b4⟩
      have hg : Kit.Good hsh T S := by
        refine Good.of_part ⟨?_, ?_, ?_, ?_⟩ hP HND.out
        · have := HLEN.out; omega
        · omega
        · rw [hSl]; decide
        · have := HLEN.out; omega
      have bb4 : Below w.heap.size w W4 := bb3.trans (b4.mono bb3.size)
      have hTB := TB.new (tt := 25) (hO.out.sl.later b4) hS.sl
      have HTB := Lib.hid hTB
      have HG := Lib.hid hg
      have HSL := Lib.hid hSl
      obtain ⟨oS, xS, rfl⟩ := hS.shape
      rw [List.length_map] at HTB ⊢
      have hSb : S.length ≤ 10000000 := by omega
      obtain ⟨mS, hmS⟩ : ∃ mS, mS = S.length := ⟨_, rfl⟩
      rw [← hmS] at HTB ⊢
      clear hTB hS hP hg hO hlay hSl hB b2 hmS
      go_wp2_with (go_at_call 13; refine (hcut _).mono ?_; rintro e w' ⟨rfl, rfl⟩)
      obtain ⟨W5, hW5⟩ : ∃ W5, W5 = W4.alloc (.cells #[.slice ov k xv, .slice oS mS xS] 25) := ⟨_, rfl⟩
      have bb5 : Below w.heap.size w W5 := by rw [hW5]; exact bb4.alloc bb4.size _
      rw [← hW5] at HTB ⊢
      clear hW5
      obtain ⟨b5, hb5⟩ : ∃ b5, b5 = W4.heap.size := ⟨_, rfl⟩
      rw [← hb5] at HTB ⊢
      clear hb5 b4 bb4 bb3
      have hs63 : s.size ≤ 9223372036854775807 := by omega
      have HRF := Lib.hid (fun (W : World) (h : Sl W (.slice ov k xv) (T.map Value.string)) => rfind_any (.slice ov k xv) T s W h)
      refine (put_any _ _ T S s hs63 W5 HTB.out.sT HTB.out.sS hSb (by have := HLEN.out; omega) HZ.out).mono ?_
      rintro e W6 (⟨_, h, hb⟩ | ⟨_, hg, hs, hT, hb⟩ | ⟨_, T', p, vT', vS', vN', hg, hk', ha⟩)
      · exact (h HG.out).elim
      · have bb6 := bb5.trans (hb.mono bb5.size)
        have HTB6 := Lib.hid (HTB.out.later hb)
        have hf : fdI T s = -1 := by unfold fdI; rw [if_neg hs]
        rw [hf] at HRF
        clear hT hs hg hb hf
        go_wp2_with (go_at_call 15; refine (HRF.out _ (HTB6.out.sT.alloc _)).mono ?_; rintro e w' ⟨rfl, rfl⟩)
        go_ret
        exact ⟨rfl, bb6.alloc bb6.size _⟩
      · have bb6 : Below w.heap.size w W6 := bb5.trans (ha.low.mono bb5.size)
        obtain ⟨hin, rfl, hkp⟩ : s ∈ T ∧ T = T' ∧ p = pos T s := by
          rcases hk' with ⟨h1, h2, h3⟩ | ⟨_, h2, _⟩
          · exact ⟨h1, h2.symm, h3⟩
          · exact (h2 (by rw [HLEN.out]; exact HK.out)).elim
        have hf : fdI T s = (p : Int) := by unfold fdI; rw [if_pos hin, hkp]
        have hpT : p < T.length := by rw [hkp]; exact pos_lt hin
        obtain ⟨S', p1, p2, p3, p4⟩ := ha.ex
        have hS'l : S'.length ≤ 10000000 := by omega
        obtain ⟨o3, x3, rfl⟩ := p1.shape
        obtain ⟨o4, x4, rfl⟩ := p2.shape
        rw [List.length_map] at p1 p2
        rw [List.length_map, List.length_map]
        have hTB6 := HTB.out.later ha.low
        have hTC := TB.new (tt := 25) p1.sl p2.sl
        rw [HLEN.out] at hTC hpT ⊢
        obtain ⟨m4, hm4⟩ : ∃ m4, m4 = S'.length := ⟨_, rfl⟩
        rw [← hm4] at hTC ⊢
        have HGC := Lib.hid p3
        obtain ⟨W7, hW7⟩ : ∃ W7, W7 = W6.alloc (.cells #[.slice o3 k x3, .slice o4 m4 x4] 25) := ⟨_, rfl⟩
        have g7 : Gr W6 W7 := by rw [hW7]; exact Gr.alloc _ _
        have bb7 := below_gr bb6 g7 bb6.size
        obtain ⟨b7, hb7⟩ : ∃ b7, b7 = W6.heap.size := ⟨_, rfl⟩
        rw [← hW7, ← hb7] at hTC
        have HTC := Lib.hid hTC
        have HTB7 := Lib.hid (hTB6.later g7.below)
        rw [hf] at HRF
        clear hTC hTB6 ha p1 p2 p3 p4 hg hk' g7 HTB hkp hin hf hm4
        go_upto_region 12 with (fail)
        rw [← hW7, ← hb7]
        clear hW7 hb7
        have hp0 : decide ((p : Int) < 0) = false := by rw [decide_eq_false_iff_not]; omega
        go_upto_region 15 with (go_at_call 15; refine (HRF.out _ HTB7.out.sT).mono ?_; rintro e w' ⟨rfl, rfl⟩)
        have hk0 : 0 < k := by omega
        obtain ⟨j, hj, ej⟩ : ∃ j : Nat, j < k ∧ wrap64 ((IntKind.u64.wrap n).tmod (k : Int)) = (j : Int) := by
          have h0 : 0 ≤ IntKind.u64.wrap n := by rw [IntKind.wrap_u64]; omega
          rw [Int.tmod_eq_emod_of_nonneg h0]
          have h1 := Int.emod_nonneg (IntKind.u64.wrap n) (show (k : Int) ≠ 0 by omega)
          have h2 := Int.emod_lt_of_pos (IntKind.u64.wrap n) (show (0 : Int) < (k : Int) by omega)
          refine ⟨((IntKind.u64.wrap n) % (k : Int)).toNat, by omega, ?_⟩
          generalize (IntKind.u64.wrap n) % (k : Int) = z at h1 h2 ⊢
          unfold wrap64
          omega
        have hjT : j < T.length := by rw [HLEN.out]; exact hj
        obtain ⟨bL, fL, rfl, hbL, hcL⟩ : ∃ b off, ov = some ⟨b, off, none⟩ ∧ b < w'.heap.size ∧ w'.cell? ⟨b, off + j, none⟩ = some (.string T[j]) := by
          exact HTB7.out.sT.at hjT
        go_upto_region 16 with (fail)
        have hsj := HZ.out _ (List.getElem_mem hjT)
        have hmem := List.getElem_mem hjT
        have hpos := pos_at HND.out hjT
        have hTB7 := HTB7.out
        obtain ⟨y, hy⟩ : ∃ y, y = T[j] := ⟨_, rfl⟩
        rw [← hy] at hsj hmem hpos hcL ⊢
        have HM := Lib.hid hmem
        have HPOS := Lib.hid hpos
        obtain ⟨t0, t1⟩ := hTB7.cells
        have HCL := Lib.hid hcL
        have HT9 := Lib.hid (show T.length ≤ 10000000 by rw [HLEN.out]; omega)
        clear hy hcL hmem hpos hTB7 hjT HRF HND
        go_wp2_with fail
        refine (put_any _ _ T S y hsj w' HTB7.out.sT HTB7.out.sS hSb HT9.out HZ.out).mono ?_
        rintro e W8 (⟨_, h, hb⟩ | ⟨_, hg, hs, hT, hb⟩ | ⟨_, T2, p2, vT2, vS2, vN2, hg, hk2, ha⟩)
        · exact (h HG.out).elim
        · exact (hs HM.out).elim
        · obtain rfl : j = p2 := by
            rcases hk2 with ⟨h1, h2, h3⟩ | ⟨h1, h2, _⟩
            · rw [h3]; exact HPOS.out.symm
            · exact (h1 HM.out).elim
          have bb8 := bb7.trans (ha.low.mono bb7.size)
          obtain ⟨S2, q1, q2, -, -⟩ := ha.ex
          obtain ⟨o5, x5, rfl⟩ := q1.shape
          obtain ⟨o6, x6, rfl⟩ := q2.shape
          clear q1 q2
          obtain ⟨l5, hl5⟩ : ∃ l5, l5 = (T2.map Value.string).length := ⟨_, rfl⟩
          obtain ⟨l6, hl6⟩ : ∃ l6, l6 = (S2.map (Value.int .i64)).length := ⟨_, rfl⟩
          rw [← hl5, ← hl6] at ha ⊢
          clear hl5 hl6
          have hTC8 := HTC.out.later ha.low
          have hTB8 := HTB7.out.later ha.low
          have hcL8 := (ha.low.cell (p := ⟨bL, fL + j, none⟩) hbL).trans HCL.out
          obtain ⟨W9, hW9⟩ : ∃ W9, W9 = W8.alloc (.cells #[.slice o5 l5 x5, .slice o6 l6 x6] 25) := ⟨_, rfl⟩
          have g9 : Gr W8 W9 := by rw [hW9]; exact Gr.alloc _ _
          have bb9 := below_gr bb8 g9 bb8.size
          have hcL9 := (g9.below.cell (p := ⟨bL, fL + j, none⟩) (Nat.lt_of_lt_of_le hbL ha.low.size)).trans hcL8
          have HTC9 := Lib.hid (hTC8.later g9.below)
          clear hTC8 hTB8 hcL8 ha hk2 HTB7 HTC HG HM HPOS hg HCL t0 t1
          go_upto_region 17 with (fail)
          rw [← hW9]
          clear hW9
          obtain ⟨c0, c1⟩ := HTC9.out.cells
          have hss : (y.toList == y.toList) = true := eq_s rfl
          go_wp2_with fail
          refine (right_any _ _ T S' W9 HTC9.out.sT HTC9.out.sS (by omega) (by have := HT9.out; omega) HZ.out true ⟨fun _ => HGC.out, fun _ => rfl⟩).mono ?_
          rintro e W10 ⟨rfl, g10⟩
          have bb10 := below_gr bb9 g10 bb9.size
          go_wp2
          go_ret
          exact ⟨rfl, bb10⟩
end Go.Proofs.Ytfnlegnieilcbaa
