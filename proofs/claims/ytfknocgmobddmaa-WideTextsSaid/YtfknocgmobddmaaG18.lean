/- The walk of WideTexts. -/
import Derived.Test.YtfknocgmobddmaaG17
import Derived.Test.YtfknocgmobddmaaG10
import Derived.Test.YtfknocgmobddmaaX4
namespace Go.Proofs.Ytfknocgmobddmaa
open Go.RowKit Go.Proofs.Kit

theorem bytes_of {T : ByteArray} {l : List UInt8} (h : T.data.toList = l) : T = ⟨l.toArray⟩ := by
  cases T with
  | mk a => cases a with
    | mk b => simp at h; rw [h]
theorem text_wz (x z : Int) (hx : Wd x) (hz : Wd z) (T : ByteArray) (hT : T.data.toList = textOf (num (x, z)).toNat) (w : World) :
    Calls Try.prog 25 #[WV x z] w fun e w' => e = .returned (.string T) ∧ Below w.heap.size w w' := by
  have hp := num_pos (p := (x, z)) ⟨hx, hz⟩
  have e : (((num (x, z)).toNat : Nat) : Int) = num (x, z) := by omega
  have h := text_any (num (x, z)).toNat (by omega) w
  rw [e, hiW_num ⟨hx, hz⟩, loW_num ⟨hx, hz⟩] at h
  rw [bytes_of hT]
  exact h
theorem rtext_wz (x z : Int) (hx : Wd x) (hz : Wd z) (T : ByteArray) (hT : T.data.toList = textOf (num (x, z)).toNat) (w : World) :
    Calls Try.prog 26 #[WV x z] w fun e w' => e = .returned (.string T) ∧ Below w.heap.size w w' := by
  have hp := num_pos (p := (x, z)) ⟨hx, hz⟩
  have e : (((num (x, z)).toNat : Nat) : Int) = num (x, z) := by omega
  have h := rText_any (num (x, z)).toNat (by omega) w
  rw [e, hiW_num ⟨hx, hz⟩, loW_num ⟨hx, hz⟩] at h
  exact h.mono fun e w' ⟨S, he, hS, hb⟩ => ⟨by rw [he, bytes_of hS, ← bytes_of hT], hb⟩
theorem like_okV (V : Int) (v : Value) (l : List Int) (w : World) (s : Seg .u64 w v l) (d : Dig l) (h : dv l = V) (h8 : V < Big) :
    Calls Try.prog 16 #[WV (hiW V) (loW V), .int .i64 0, v] w fun e w' => e = .returned (.bool true) ∧ Below w.heap.size w w' := by
  subst h; exact like_ok v l w s d h8
theorem like_noV (V : Int) (v : Value) (l : List Int) (w : World) (s : Seg .u64 w v l) (d : Dig l) (h : dv l = V) (h8 : Big ≤ V) :
    Calls Try.prog 16 #[WV 0 0, .int .i64 110, v] w fun e w' => e = .returned (.bool true) ∧ Below w.heap.size w w' := by
  subst h; exact like_no v l w s d h8
/-- A wide number in a block of its own, and what lay ahead. -/
def TH (w0 : World) (k : Nat) (x z : Int) (w : World) : Prop := Blk w k #[.int .u64 x, .int .u64 z] 26 ∧ Below w0.heap.size w0 w
section
variable {w0 w w' : World} {k : Nat} {x z : Int}
theorem TH.later (h : TH w0 k x z w) (hb : Below w.heap.size w w') : TH w0 k x z w' := ⟨h.1.later hb, below_later h.2 hb⟩
theorem TH.drew (h : TH w0 k x z w) : TH w0 k x z w.drew := ⟨h.1, h.2.drew⟩
theorem TH.cells (h : TH w0 k x z w) : w.cell? ⟨k, 0, none⟩ = some (.int .u64 x) ∧ w.cell? ⟨k, 1, none⟩ = some (.int .u64 z) ∧ TH w0 k x z w := ⟨h.1.cell 0, h.1.cell 1, h⟩
end
/-- A slice of texts that came in. -/
def ArgS (w : World) (o : Option Addr) (ss : List ByteArray) : Prop := (o = none ∧ ss = []) ∨ ∃ a, o = some a ∧ ∀ i (h : i < ss.length), w.cell? (a.add i) = some (.string ss[i]) ∧ ss[i].size ≤ 9223372036854775807

set_option maxRecDepth 100000 in
set_option maxHeartbeats 8000000 in
theorem texts_true (o os : Option Addr) (len cap ns cs : Nat) (M : List (Int × Int)) (ss : List ByteArray) (w : World) (hlc : len ≤ cap) (hm : cap ≤ maxLen) (hM : M.length = len) (hl : ArgP w o M) (hp : ∀ p ∈ M, Wp p)
    (hns : ss.length = ns) (hnm : ns ≤ 9223372036854775807) (hs : ArgS w os ss) :
    Calls Try.prog 5 #[.slice o len cap, .slice os ns cs] w fun e w' => e = .returned (.bool true) ∧ Below w.heap.size w w' := by
  have hmix : Try.prog.follows .mixedOrders = true := by kernel_rfl
  have HA := Lib.hid hl
  have HP := Lib.hid hp
  have HM := Lib.hid hM
  have HS := Lib.hid hs
  have HNS := Lib.hid hns
  have hlm : len ≤ 9223372036854775807 := by unfold maxLen at hm; omega
  clear hl hp hM hs hns hlc hm
  go_enter Try.func5, Try.ntmps5
  go_wp2_with fail
  refine (wakes_true _).mono ?_
  rintro e w1 ⟨rfl, h1⟩
  have HB1 := Lib.hid h1
  clear h1
  go_wp2
  go_loopg [15] len (fun kx s wr => ∃ k : Nat, s = .int .i64 (k : Int) ∧ k ≤ len ∧ len - k ≤ kx ∧ Hid (Below w.heap.size w wr))
  case atStart => exact ⟨0, rfl, Nat.zero_le _, by omega, HB1⟩
  case round =>
    clear HB1
    obtain ⟨k, rfl, hk, hkx, HB⟩ := hrel
    by_cases hlt : k < len
    · have hkl : k < M.length := by have := HM.out; omega
      obtain ⟨b, off, rfl, hb, hc⟩ := HA.out.resolve_left (fun e => by rw [e] at hkl; simp at hkl)
      have c0 := (HB.out.cell (p := ⟨b, off + k * 2, none⟩) hb).trans (hc k hkl).1
      have c1 := (HB.out.cell (p := ⟨b, off + k * 2 + 1, none⟩) hb).trans (hc k hkl).2
      have hwp : Wp M[k] := HP.out _ (List.getElem_mem hkl)
      obtain ⟨⟨x, z⟩, hxz⟩ : ∃ q, q = M[k] := ⟨_, rfl⟩
      rw [← hxz] at c0 c1 hwp
      simp only at c0 c1
      obtain ⟨hx, hz⟩ := hwp
      have hbw : b < wr.heap.size := Nat.lt_of_lt_of_le hb HB.out.size
      have HX := Lib.hid hx
      have HZ := Lib.hid hz
      clear hxz hx hz hc
      by_cases h12 : k < 12
      · have g12 : decide ((k : Int) < 12) = true := by simp; omega
        clear h12
        obtain ⟨T, hTT⟩ : ∃ T : ByteArray, T.data.toList = textOf (num (x, z)).toNat := ⟨⟨(textOf (num (x, z)).toNat).toArray⟩, rfl⟩
        have HTT := Lib.hid hTT
        clear hTT
        go_upto_region 6 with (fail)
        have hT : TH w wr.heap.size x z (wr.alloc (.cells #[.int .u64 x, .int .u64 z] 26)) := ⟨Blk.new _ _ _, HB.out.alloc HB.out.size _⟩
        obtain ⟨k6, hk6⟩ : ∃ q, q = wr.heap.size := ⟨_, rfl⟩
        obtain ⟨w5, hw5⟩ : ∃ w5, w5 = wr.alloc (.cells #[.int .u64 x, .int .u64 z] 26) := ⟨_, rfl⟩
        rw [← hk6, ← hw5] at hT ⊢
        clear hk6 hw5 HB c0 c1 hbw
        go_region_held3 (fun w' => w'.cell? ⟨k6, 0, none⟩ = some (.int .u64 x) ∧ w'.cell? ⟨k6, 1, none⟩ = some (.int .u64 z) ∧ TH w k6 x z w')
          (first | exact hT.cells | exact hT.drew.cells)
          (first
            | (go_at_call 25; refine (text_wz x z HX.out HZ.out T HTT.out _).mono ?_; rintro e wF ⟨rfl, hbl⟩; first | (have hT := hT.drew.later hbl) | (have hT := hT.later hbl))
            | (go_at_call 26; refine (rtext_wz x z HX.out HZ.out T HTT.out _).mono ?_; rintro e wF ⟨rfl, hbl⟩; have hT := hT.later hbl))
        all_goals
          have HTH := Lib.hid hT
          clear hT
          go_wp2
          go_roundg (len - (k + 1))
          case measure => omega
          case rel => exact ⟨k + 1, by go_num, by omega, Nat.le_refl _, Lib.hid HTH.out.2⟩
      · have g12 : decide ((k : Int) < 12) = false := by simp; omega
        clear h12
        go_upto_region 6 with (fail)
        go_quiet (fail)
        go_wp2
        go_roundg (len - (k + 1))
        case measure => omega
        case rel => exact ⟨k + 1, by go_num, by omega, Nat.le_refl _, Lib.hid (below_drN (HB.out.alloc HB.out.size _) nq)⟩
    · go_wp2
      go_loopg [32] ns (fun ky s wz => ∃ j : Nat, s = .int .i64 (j : Int) ∧ j ≤ ns ∧ ns - j ≤ ky ∧ Hid (Below w.heap.size w wz))
      case atStart => exact ⟨0, rfl, Nat.zero_le _, by omega, HB⟩
      case round =>
        clear HB
        obtain ⟨j, rfl, hj, hky, HB⟩ := hrel
        by_cases hjn : j < ns
        · have hjs : j < ss.length := by have := HNS.out; omega
          obtain ⟨a, rfl, hcs⟩ := HS.out.resolve_left (fun e => by rw [e.2] at hjs; simp at hjs)
          obtain ⟨d0, dsz⟩ := hcs j hjs
          have d1 : wr.cell? (a.add j) = some (.string ss[j]) := (HB.out.cell (World.block_lt_of_cell? _ _ d0)).trans d0
          obtain ⟨s, hsx⟩ : ∃ s, s = ss[j] := ⟨_, rfl⟩
          rw [← hsx] at d1 dsz
          clear hsx d0 hcs
          by_cases h12 : j = 12
          · have g12 : ((j : Int) == 12) = true := by simp; omega
            clear h12
            go_wp2
            go_ret
            exact ⟨rfl, HB.out⟩
          · have g12 : ((j : Int) == 12) = false := by simp; omega
            clear h12
            go_wp2_with fail
            obtain ⟨t, ht⟩ : ∃ t, t = s.extract 0 (min (s.size : Int) 60).toNat := ⟨_, rfl⟩
            have htl : t.size ≤ 60 := by rw [ht, ByteArray.size_extract]; omega
            rw [← ht]
            clear ht
            by_cases hT : isTextB t.data.toList = true
            · have HT := Lib.hid hT
              refine (read_yes t _ (by omega) hT).mono ?_
              rintro e w4 ⟨hr, h4⟩
              have hdg : t.data.toList.all isDig = true := by unfold isTextB at hT; simp only [Bool.and_eq_true] at hT; exact hT.2
              have HDG := Lib.hid hdg
              have B4 := Lib.hid (below_later HB.out h4)
              obtain ⟨V, hV⟩ : ∃ V, V = valOf t.data.toList := ⟨_, rfl⟩
              rw [← hV] at hr
              have HV := Lib.hid hV
              clear h4 hT hdg hV HB
              rcases hr.fits with ⟨hc, rfl⟩ | ⟨hc, rfl⟩
              · go_wp2_with fail
                refine (rRight_any t _ (by omega)).mono ?_
                rw [HT.out]
                rintro e w5 ⟨rfl, rfl⟩
                go_upto_region 18 with (fail)
                have hT : TH w w4.heap.size (hiW V) (loW V) (w4.alloc (.cells #[.int .u64 (hiW V), .int .u64 (loW V)] 26)) := ⟨Blk.new _ _ _, B4.out.alloc B4.out.size _⟩
                obtain ⟨k6, hk6⟩ : ∃ q, q = w4.heap.size := ⟨_, rfl⟩
                obtain ⟨w5, hw5⟩ : ∃ w5, w5 = w4.alloc (.cells #[.int .u64 (hiW V), .int .u64 (loW V)] 26) := ⟨_, rfl⟩
                rw [← hk6, ← hw5] at hT ⊢
                clear hk6 hw5 B4
                go_region_held3 (fun w' => w'.cell? ⟨k6, 0, none⟩ = some (.int .u64 (hiW V)) ∧ w'.cell? ⟨k6, 1, none⟩ = some (.int .u64 (loW V)) ∧ TH w k6 (hiW V) (loW V) w')
                  (first | exact hT.cells | exact hT.drew.cells)
                  (first
                    | (go_at_call 29; refine (rRead_any t _ htl HDG.out).mono ?_; rintro e wF ⟨vF, LF, rfl, dF, eF, sF, hbl⟩; rw [← HV.out] at eF; first | (have hT := hT.drew.later hbl) | (have hT := hT.later hbl))
                    | (go_at_call 16; refine (like_okV V vF LF _ sF dF eF hc).mono ?_; rintro e wH ⟨rfl, hbl⟩; have hT := hT.later hbl))
                all_goals
                  have HTH := Lib.hid hT
                  clear hT
                  go_wp2
                  go_roundg (ns - (j + 1))
                  case measure => omega
                  case rel => exact ⟨j + 1, by go_num, by omega, Nat.le_refl _, Lib.hid HTH.out.2⟩
              · go_wp2_with fail
                refine (rRight_any t _ (by omega)).mono ?_
                rw [HT.out]
                rintro e w5 ⟨rfl, rfl⟩
                go_upto_region 18 with (fail)
                have hT : TH w w4.heap.size (0) (0) (w4.alloc (.cells #[.int .u64 (0), .int .u64 (0)] 26)) := ⟨Blk.new _ _ _, B4.out.alloc B4.out.size _⟩
                obtain ⟨k6, hk6⟩ : ∃ q, q = w4.heap.size := ⟨_, rfl⟩
                obtain ⟨w5, hw5⟩ : ∃ w5, w5 = w4.alloc (.cells #[.int .u64 (0), .int .u64 (0)] 26) := ⟨_, rfl⟩
                rw [← hk6, ← hw5] at hT ⊢
                clear hk6 hw5 B4
                go_region_held3 (fun w' => w'.cell? ⟨k6, 0, none⟩ = some (.int .u64 (0)) ∧ w'.cell? ⟨k6, 1, none⟩ = some (.int .u64 (0)) ∧ TH w k6 (0) (0) w')
                  (first | exact hT.cells | exact hT.drew.cells)
                  (first
                    | (go_at_call 29; refine (rRead_any t _ htl HDG.out).mono ?_; rintro e wF ⟨vF, LF, rfl, dF, eF, sF, hbl⟩; rw [← HV.out] at eF; first | (have hT := hT.drew.later hbl) | (have hT := hT.later hbl))
                    | (go_at_call 16; refine (like_noV V vF LF _ sF dF eF (by omega)).mono ?_; rintro e wH ⟨rfl, hbl⟩; have hT := hT.later hbl))
                all_goals
                  have HTH := Lib.hid hT
                  clear hT
                  go_wp2
                  go_roundg (ns - (j + 1))
                  case measure => omega
                  case rel => exact ⟨j + 1, by go_num, by omega, Nat.le_refl _, Lib.hid HTH.out.2⟩
            · refine (read_no t _ (by omega) (by simpa using hT)).mono ?_
              rintro e w4 ⟨rfl, h4⟩
              have HT := Lib.hid (show isTextB t.data.toList = false by simpa using hT)
              have B4 := Lib.hid (below_later HB.out h4)
              clear h4 hT HB
              go_wp2_with fail
              refine (rRight_any t _ (by omega)).mono ?_
              rw [HT.out]
              rintro e w5 ⟨rfl, rfl⟩
              have heq : ∀ x y w, (binOp .neq 26 (.agg #[.int .u64 x, .int .u64 y]) (.agg #[.int .u64 x, .int .u64 y])).run Try.prog w = .ok (.bool false) w := fun x y w => by rw [neq_wide]; simp [sameW]
              go_upto_region 16 with (fail)
              have hT : TH w w4.heap.size 0 0 (w4.alloc (.cells #[.int .u64 0, .int .u64 0] 26)) := ⟨Blk.new _ _ _, B4.out.alloc B4.out.size _⟩
              obtain ⟨k6, hk6⟩ : ∃ q, q = w4.heap.size := ⟨_, rfl⟩
              obtain ⟨w5, hw5⟩ : ∃ w5, w5 = w4.alloc (.cells #[.int .u64 0, .int .u64 0] 26) := ⟨_, rfl⟩
              rw [← hk6, ← hw5] at hT ⊢
              clear hk6 hw5 B4
              go_region_held3 (fun w' => w'.cell? ⟨k6, 0, none⟩ = some (.int .u64 0) ∧ w'.cell? ⟨k6, 1, none⟩ = some (.int .u64 0) ∧ TH w k6 0 0 w')
                (first | exact hT.cells | exact hT.drew.cells)
                ((go_at_call 19; refine (of_any _ _).mono ?_; rintro e wF ⟨rfl, hbl⟩; first | (have hT := hT.drew.later hbl) | (have hT := hT.later hbl)))
              all_goals
                have HTH := Lib.hid hT
                clear hT
                go_wp2
                go_roundg (ns - (j + 1))
                case measure => omega
                case rel => exact ⟨j + 1, by go_num, by omega, Nat.le_refl _, Lib.hid HTH.out.2⟩
        · go_wp2
          go_ret
          exact ⟨rfl, HB.out⟩
end Go.Proofs.Ytfknocgmobddmaa
