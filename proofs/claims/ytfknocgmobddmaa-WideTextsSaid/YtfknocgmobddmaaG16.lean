/- The reference's Text. -/
import Derived.Test.YtfknocgmobddmaaG15
import Derived.Test.YtfknocgmobddmaaSegB
import Derived.Test.YtfknocgmobddmaaKitB
import Derived.Deep.LoopGhost
import Derived.Deep.DeepCutAuto
namespace Go.Proofs.Ytfknocgmobddmaa
open Go.RowKit Go.Proofs.Kit

theorem byte_text {W : World} {b d : Nat} (h : Blk W b #[.int .u8 (48 + (d : Int))] 5) : (convert 73 9 (.slice (some ⟨b, 0, none⟩) 1 1)).run Try.prog W = .ok (.string ⟨#[UInt8.ofNat (48 + d)]⟩) W := by
  rw [run_convert_bytes_string W 73 9 5 _ _ _ (by kernel_rfl) (by kernel_rfl) (by kernel_rfl)]
  have hl : (loadCells ⟨b, 0, none⟩ 1).run Try.prog W = .ok ([(48 + (d : Int))].map (Value.int .u8)).toArray W := by
    have := run_loadCells_list (P := Try.prog) (w := W) ⟨b, 0, none⟩ ([(48 + (d : Int))].map (Value.int .u8)) (fun j v hj => by
      rw [addr_add, h.cell, ← hj]
      cases j with
      | zero => rfl
      | succ j => simp)
    exact this
  rw [run_bytesToString W _ _ _ _ hl, foldl_push_bytes]
  simp only [List.map_cons, List.map_nil, show (48 + (d : Int)).toNat = 48 + d by omega]
  rfl
theorem txt_snoc (pre : List (Fin 10)) (x : Fin 10) : txt (pre ++ [x]) = UInt8.ofNat (48 + x.val) :: txt pre := by simp [txt]
theorem txt_length (pre : List (Fin 10)) : (txt pre).length = pre.length := by simp [txt]
theorem dg_len0 (V : Nat) : (dg V).length = 0 ↔ V = 0 := by
  constructor
  · intro h
    by_cases c : V = 0
    · exact c
    · rw [dg_pos c] at h; simp at h
  · rintro rfl; rw [dg_zero]; rfl

set_option maxRecDepth 100000 in
set_option maxHeartbeats 4000000 in
theorem rText_any (N : Nat) (hN : (N : Int) < Big) (w : World) :
    Calls Try.prog 26 #[WV (hiW N) (loW N)] w fun e w' => ∃ S : ByteArray, e = .returned (.string S) ∧ S.data.toList = textOf N ∧ Below w.heap.size w w' := by
  obtain ⟨i0, hi, hz0, hz1, hz2⟩ := infou
  have w1d := hiW_wd (S := (N : Int)) (by omega) hN
  have w2d := loW_wd (N : Int)
  have hnum := num_hl (N : Int)
  obtain ⟨x, hx⟩ : ∃ x, x = hiW (N : Int) := ⟨_, rfl⟩
  obtain ⟨y, hy⟩ : ∃ y, y = loW (N : Int) := ⟨_, rfl⟩
  rw [← hx, ← hy] at hnum
  rw [← hx] at w1d ⊢
  rw [← hy] at w2d ⊢
  have W1D := Lib.hid w1d
  have W2D := Lib.hid w2d
  have HNUM := Lib.hid hnum
  clear hx hy w1d w2d hnum
  go_enter Try.func26, Try.ntmps26
  go_wp2_with fail
  refine (digits_any x y W1D.out W2D.out _).mono ?_
  rw [HNUM.out, Int.toNat_natCast]
  rintro e w1 ⟨v, rfl, ho, b1⟩
  have HO := Lib.hid ho.seg
  have HB := Lib.hid (below_al (Below.refl _ w) b1)
  have hlen : (dg N).length ≤ 8 := dg_len (k := 8) (by unfold Big at hN; omega)
  clear ho b1
  go_wp2
  go_loopg [3, 4] N (fun kx s3 s4 wr => ∃ (V : Nat) (pre : List (Fin 10)) (S : ByteArray), s4 = .string S ∧ V ≤ kx ∧ Hid (Tx N V pre ∧ S.data.toList = txt pre ∧ V ≤ N) ∧ Hid (Seg .u64 wr s3 (dg V)) ∧ Hid (Below w.heap.size w wr))
  case atStart => exact ⟨N, [], ⟨#[]⟩, rfl, Nat.le_refl _, Lib.hid ⟨Tx.start N, rfl, Nat.le_refl _⟩, HO, HB⟩
  case round =>
    clear HO HB
    obtain ⟨V, pre, S, rfl, hV, HT, HO, HB⟩ := hrel
    obtain ⟨o3, c3, rfl, _, _, _⟩ := HO.out.shape
    have hl0 := dg_len0 V
    have hdd := dg_dig V
    have hdv := dv_dg V
    have hl8 : (dg V).length ≤ 8 := dg_len (k := 8) (by have := HT.out.2.2; unfold Big at hN; omega)
    obtain ⟨L, hL⟩ : ∃ L, L = dg V := ⟨_, rfl⟩
    obtain ⟨n, hn⟩ : ∃ n, n = (dg V).length := ⟨_, rfl⟩
    rw [← hn] at hl0 hl8 HO ⊢
    rw [← hL] at HO hdd hdv hn
    have HNN := Lib.hid hn
    have HL := Lib.hid hL
    have HDD := Lib.hid hdd
    have HDV := Lib.hid hdv
    clear hn hL hdd hdv
    by_cases hz : V = 0
    · have hn0 : n = 0 := hl0.2 hz
      have g0 : decide (0 < n) = false := by simp; omega
      have hpre : Hid ((N = 0 ∧ pre = []) ∨ (0 < N ∧ pre = digs N)) := Lib.hid (by
        rcases HT.out.1 with ⟨_, h⟩ | ⟨h, _⟩
        · exact h.symm
        · omega)
      clear hl0 hn0
      have hB := HB.out
      rcases hpre.out with ⟨h0, hp⟩ | ⟨h0, hp⟩
      · have hS : S = ⟨#[]⟩ := by
          have := HT.out.2.1
          rw [hp] at this
          cases S with
          | mk a => cases a with
            | mk l => simp [txt] at this; rw [this]
        subst hS
        have htx : textOf N = [48] := by rw [h0]; unfold textOf; rw [digs_last (by decide)]; rfl
        have HTX := Lib.hid htx
        clear hpre h0 hp HT htx hB
        go_wp2
        go_ret
        exact ⟨⟨#[48]⟩, rfl, HTX.out.symm, HB.out⟩
      · have htx : S.data.toList = textOf N := by rw [HT.out.2.1, hp]; rfl
        have hse : S.toList.isEmpty = false := by
          rw [ByteArray.toList_eq, htx]
          have := digs_pos N
          cases h : textOf N with
          | nil => have e : (digs N).length = 0 := by rw [← txt_length]; exact congrArg List.length h
                   omega
          | cons => rfl
        have HTX := Lib.hid htx
        clear hpre h0 hp HT htx hB
        go_wp2
        go_ret
        exact ⟨S, rfl, HTX.out, HB.out⟩
    · have hn0 : 0 < n := by rcases Nat.eq_zero_or_pos n with h | h; exact absurd (hl0.1 h) hz; exact h
      have g0 : decide (0 < n) = true := by simpa using hn0
      clear hl0
      obtain ⟨wr0, rfl⟩ : ∃ x : World, x = wr := ⟨_, rfl⟩
      have HO1 := Lib.hid (HO.out.alloc (.cells #[] 24))
      have HE := Lib.hid (Owns.new (k := .u64) (t := 24) (B := wr0.heap.size) (w := wr0) (l := []) (vs := #[]) (Nat.le_refl _) rfl (by simp))
      go_wp2_with (at_builtin; refine wpList_append_seg rfl _ _ 28 rfl .u64 wr0.heap.size 24 i0 (.int .u64 0) 8 Try.underlying28 hi hz0 hz1 hz2 rfl _ _ rfl HE.out _ L rfl HO1.out ?qa ?qb ?qc ?_)
      case qa => have := HNN.out; simp; omega
      case qb => have := HNN.out; simp; omega
      case qc => simp
      intro v1 w2 hO2 hb2
      have hb2' : Below wr0.heap.size wr0 w2 := ((Below.refl _ _).alloc (Nat.le_refl _) _).trans hb2
      obtain ⟨o1, c1, rfl⟩ := hO2.shape
      have hnn := HNN.out
      rw [← hnn] at hO2 ⊢
      have HO2 := Lib.hid hO2
      have HB2 := Lib.hid hb2'
      have HD0 := Lib.hid (by have := Dv10.start L; rwa [← hnn] at this : Dv10 L n 0 L)
      clear hO2 hb2 hb2' hnn HE HO1
      go_wp2
      go_loopg [5, 7] n (fun ky s5 s7 wz => ∃ (k : Nat) (r : Int) (nx : List Int), s5 = .int .u64 r ∧ s7 = .int .i64 ((k : Int) - 1) ∧ k ≤ ky ∧ k ≤ n ∧ Hid (Dv10 L k r nx) ∧ Hid (Owns .u64 24 wr0.heap.size wz (.slice o1 n c1) nx) ∧ Hid (Below wr0.heap.size wr0 wz))
      case atStart => exact ⟨n, 0, L, rfl, rfl, Nat.le_refl _, Nat.le_refl _, HD0, HO2, HB2⟩
      case round =>
        clear HD0 HO2 HB2
        obtain ⟨k, r, nx, rfl, rfl, hky, hkn, HD, HOX, HBZ⟩ := hrel
        by_cases hk0 : k = 0
        · have ek : (k : Int) - 1 = -1 := by omega
          rw [ek]
          clear ek
          have hstop : r = ((V % 10 : Nat) : Int) ∧ dv nx = ((V / 10 : Nat) : Int) ∧ Dig nx := by
            have h := HD.out
            subst hk0
            obtain ⟨s1, s2, s3⟩ := h.stop
            rw [HDV.out] at s1 s2
            exact ⟨by omega, by omega, s3⟩
          obtain ⟨rfl, hdx, hgx⟩ := hstop
          have HDX := Lib.hid hdx
          have HGX := Lib.hid hgx
          have hd10 : V % 10 < 10 := Nat.mod_lt _ (by decide)
          obtain ⟨d, hd⟩ : ∃ d, d = V % 10 := ⟨_, rfl⟩
          rw [← hd] at hd10 ⊢
          have HDd := Lib.hid hd
          have hconv := byte_text (Blk.new wr #[.int .u8 (48 + (d : Int))] 5)
          obtain ⟨C, hC⟩ : ∃ C : ByteArray, C = ⟨#[UInt8.ofNat (48 + d)]⟩ := ⟨_, rfl⟩
          rw [← hC] at hconv
          have HC := Lib.hid hC
          clear hC
          have q5 : IntKind.u64.wrap (48 + (d : Int)) = 48 + (d : Int) := by rw [IntKind.wrap_u64]; omega
          have q3 : IntKind.u8.wrap (48 + (d : Int)) = 48 + (d : Int) := by rw [IntKind.wrap_u8]; omega
          clear hk0 hdx hgx hd
          obtain ⟨T, hT⟩ : ∃ T : ByteArray, T = C ++ S := ⟨_, rfl⟩
          have hstx := HT.out.1.step (by omega)
          have hadd : ∀ w, (Op.stringOp .add C S).run Try.prog w = .ok (.string T) w := fun w => by
            rw [hT]
            refine run_string_add _ C S ?_ ?_
            · rw [HC.out]; show ((1 : Nat) : Int) ≤ _; omega
            · have h1 : S.size = pre.length := by
                have := congrArg List.length HT.out.2.1
                rw [txt_length] at this
                rw [← this]; rfl
              have h2 := digs_length 38 N (by unfold Big at hN; omega)
              rw [h1]
              omega
          have hTl : T.data.toList = txt (pre ++ [⟨V % 10, Nat.mod_lt _ (by decide)⟩]) := by
            rw [hT, txt_snoc, ← HT.out.2.1, HC.out, HDd.out]
            simp
          have HTL := Lib.hid hTl
          have HSTX := Lib.hid hstx.1
          clear hT hTl hstx
          go_wp2_with fail
          refine (trim_own wr0.heap.size (.slice o1 n c1) nx _ ((HOX.out.alloc _)) HGX.out).mono ?_
          rintro e w7 ⟨v7, rfl, ho7, rfl⟩
          rw [HDX.out, Int.toNat_natCast] at ho7
          have HO7 := Lib.hid ho7.seg
          clear ho7
          go_wp2
          go_roundg (V / 10)
          case measure => omega
          case rel => exact ⟨V / 10, _, T, rfl, Nat.le_refl _, Lib.hid ⟨HSTX.out, HTL.out, by have := HT.out.2.2; omega⟩, HO7, Lib.hid ((HB.out.trans (HBZ.out.mono HB.out.size)).alloc (by have := HB.out.size; have := HBZ.out.size; omega) _)⟩
        · obtain ⟨j, rfl⟩ : ∃ j, k = j + 1 := ⟨k - 1, by omega⟩
          obtain ⟨hj, hm0, hm1⟩ := HD.out.num HDD.out
          have hb := HD.out.bd
          have hst := HD.out.step HDD.out hj
          have hlx := HD.out.len
          obtain ⟨b, f, rfl, hbl, hcells⟩ := (show L = [] ∨ _ from by have := HO.out.shape; obtain ⟨_, _, e, _, _, h⟩ := this; injection e with e1 _ _; subst e1; exact h).resolve_left (fun e => by rw [e] at hj; simp at hj)
          have d1 := (HBZ.out.cell (p := ⟨b, f + j, none⟩) hbl).trans (hcells j hj)
          obtain ⟨z, hzz⟩ : ∃ z, z = L[j] := ⟨_, rfl⟩
          rw [← hzz] at d1 hst hm0 hm1
          obtain ⟨g, cap, hv, -, -, hg0, hgl, hcell, hfr, hset⟩ := HOX.out.set (i := j) (by omega) ((r * 65536 + z) / 10)
          injection hv with hv1 hv2 hv3
          subst hv1
          obtain ⟨old, hcell⟩ : ∃ u, wr.cell? ⟨g, j, none⟩ = some u := ⟨_, hcell⟩
          have q1 : IntKind.u64.wrap (r * 65536) = r * 65536 := by rw [IntKind.wrap_u64]; omega
          have q2 : IntKind.u64.wrap (r * 65536 + z) = r * 65536 + z := by rw [IntKind.wrap_u64]; omega
          have q4 : ((j + 1 : Nat) : Int) - 1 = (j : Int) := by omega
          rw [q4]
          have HSET := Lib.hid hset
          have HST := Lib.hid hst
          have hjn : j < n := by have := HNN.out; omega
          clear hset hst hcells hzz hv2 hv3 q4 hk0
          go_wp2
          go_roundg j
          case measure => omega
          case rel => exact ⟨j, (r * 65536 + z) % 10, nx.set j ((r * 65536 + z) / 10), rfl, rfl, Nat.le_refl _, by omega, HST, HSET, Lib.hid (HBZ.out.setCell hg0 _)⟩
end Go.Proofs.Ytfknocgmobddmaa
