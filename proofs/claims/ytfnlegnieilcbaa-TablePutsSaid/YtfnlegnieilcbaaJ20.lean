/- The reference's Right. -/
import Derived.Test.YtfnlegnieilcbaaJ19
namespace Go.Proofs.Kit
section
variable {α : Type} [DecidableEq α] {T : List α} {S : List Int} {hs : α → Nat}
/-- Each text is its number's alone, and its number stands. -/
def Ech (hs : α → Nat) (T : List α) (S : List Int) : Prop := ∀ n (h : n < T.length), fdI T T[n] = (n : Int) ∧ Stands (hs T[n]) S n
/-- A table that may be, by its parts. -/
theorem good_iff : Good hs T S ↔ Szd T S ∧ (∀ x ∈ S, 0 ≤ x ∧ x ≤ (T.length : Int)) ∧ Ech hs T S := by
  constructor
  · intro h
    have hnd := h.nodup
    refine ⟨h.sz, h.fl.1, fun n hn => ⟨?_, ?_⟩⟩
    · unfold fdI
      rw [if_pos (List.getElem_mem hn), pos_first hn (fun i hi hlt e => by have := (List.getElem_inj hnd).1 e; omega) rfl]
    · obtain ⟨i, hi, h1, h2⟩ := h.part.sits n hn
      exact ⟨i, hi, h1, h2, fun j hj e => prb_inj hj hi (h.part.one (by rw [e, h1]) (by rw [e]; omega))⟩
  · rintro ⟨hz, hn, h⟩
    have hnd : T.Nodup := by
      unfold List.Nodup
      rw [List.pairwise_iff_getElem]
      intro i j hi hj hij e
      have h1 := (h i hi).1
      have h2 := (h j hj).1
      rw [e, h2] at h1
      omega
    have hl : (S.filter (fun x => decide (x ≠ 0))).Nodup := by
      unfold List.Nodup
      rw [List.pairwise_filter, List.pairwise_iff_getElem]
      intro p q hp hq hpq hp0 hq0 e
      have hp0' : S[p] ≠ 0 := by simpa using hp0
      have hb := hn _ (List.getElem_mem hp)
      obtain ⟨k, hk⟩ : ∃ k : Nat, S[p] = (k : Int) + 1 := ⟨(S[p] - 1).toNat, by omega⟩
      obtain ⟨i, _, _, _, hu⟩ := (h k (by omega)).2
      obtain ⟨i1, h1, e1⟩ := prb_all (m := S.length) (by omega) (hs (T[k]'(by omega))) p hp
      obtain ⟨i2, h2, e2⟩ := prb_all (m := S.length) (by omega) (hs (T[k]'(by omega))) q hq
      have a1 := hu i1 h1 (by rw [e1, at0_lt hp, hk])
      have a2 := hu i2 h2 (by rw [e2, at0_lt hq, ← e, hk])
      have a3 : i1 = i2 := a1.trans a2.symm
      have hk2 : k < T.length := by omega
      have e3 : prb (hs T[k]) S.length i1 = prb (hs T[k]) S.length i2 := by rw [a3]
      have : p = q := e1.symm.trans (e3.trans e2)
      omega
    have hc : taken S = T.length := by
      have hp := (List.perm_ext_iff_of_nodup hl (nodup_nums T.length)).2 (fun x => by
        rw [List.mem_filter, List.mem_map]
        constructor
        · rintro ⟨hx, h0⟩
          have h0' : x ≠ 0 := by simpa using h0
          have := hn x hx
          exact ⟨(x - 1).toNat, List.mem_range.2 (by omega), by omega⟩
        · rintro ⟨k, hk, rfl⟩
          obtain ⟨i, hi, h1, _⟩ := (h k (List.mem_range.1 hk)).2
          exact ⟨by rw [← h1]; exact (at0_mem (by rw [h1]; omega)).2, by simp; omega⟩)
      have := hp.length_eq
      rw [← List.countP_eq_length_filter, List.length_map, List.length_range] at this
      exact this
    refine Good.of_part hz ⟨Nat.le_refl _, hn, hc, fun k hk => ?_⟩ hnd
    obtain ⟨i, a, b, c, _⟩ := (h k hk).2
    exact ⟨i, a, b, c⟩
end
/-- A number that was doubled, from 8 on. -/
def Dbl (m M : Nat) : Prop := ∃ k, M = 8 * 2 ^ k ∧ (M = 8 ∨ M < 2 * m)
theorem Dbl.start (m : Nat) : Dbl m 8 := ⟨0, rfl, .inl rfl⟩
theorem Dbl.step {m M : Nat} (h : Dbl m M) (hlt : M < m) : Dbl m (2 * M) := by
  obtain ⟨k, rfl, _⟩ := h
  exact ⟨k + 1, by rw [Nat.pow_succ]; omega, .inr (by omega)⟩
theorem Dbl.pos {m M : Nat} (h : Dbl m M) : 8 ≤ M := by
  obtain ⟨k, rfl, _⟩ := h
  have := Nat.one_le_two_pow (n := k)
  omega
theorem Dbl.end_ {m M : Nat} (h : Dbl m M) (hge : m ≤ M) : m = M ↔ 8 ≤ m ∧ m &&& (m - 1) = 0 := by
  have h8 := h.pos
  obtain ⟨k, hk, hM⟩ := h
  have hk' : M = 2 ^ (k + 3) := by rw [hk, Nat.pow_add]; omega
  constructor
  · rintro rfl
    exact ⟨h8, pow_and ⟨_, hk'⟩⟩
  · rintro ⟨h1, h2⟩
    rcases hM with c | c
    · omega
    · obtain ⟨j, hj⟩ := and_pow m (by omega) h2
      have a : j ≤ k + 3 := (Nat.pow_le_pow_iff_right (a := 2) (by omega)).1 (by rw [← hj, ← hk']; exact hge)
      have b : k + 3 < j + 1 := (Nat.pow_lt_pow_iff_right (a := 2) (by omega)).1 (by rw [← hk', Nat.pow_succ, ← hj]; omega)
      have : j = k + 3 := by omega
      rw [hj, hk', this]
end Go.Proofs.Kit
namespace Go.Proofs.Ytfnlegnieilcbaa
open Go.RowKit Go.Proofs.Kit Go.Shelf

set_option maxHeartbeats 3000000 in
theorem right_any (vT vS : Value) (T : List ByteArray) (S : List Int) (w : World) (hT : Sl w vT (T.map Value.string)) (hS : Sl w vS (S.map (Value.int .i64))) (hm : S.length ≤ 1000000000) (hTl : T.length ≤ 1000000000) (hsz : ∀ s ∈ T, s.size ≤ 9223372036854775807) (b : Bool) (hb : b = true ↔ Kit.Good hsh T S) :
    Calls Try.prog 11 #[.agg #[vT, vS]] w fun e w' => e = .returned (.bool b) ∧ Gr w w' := by
  rw [good_iff] at hb
  have HT := Lib.hid hT
  have HS := Lib.hid hS
  have HSZ := Lib.hid hsz
  obtain ⟨oT, cT, rfl, hcT, hmT, aT⟩ := hT.mshape
  obtain ⟨oS, cS, rfl, hcS, hmS, aS⟩ := hS.mshape
  unfold Szd at hb
  obtain ⟨m, hm'⟩ : ∃ m, m = S.length := ⟨_, rfl⟩
  obtain ⟨q, hq'⟩ : ∃ q, q = T.length := ⟨_, rfl⟩
  have HB := Lib.hid hb
  rw [← hm'] at hm HS HB ⊢
  rw [← hq'] at hTl HT HB ⊢
  have HM := Lib.hid hm'
  have HQ := Lib.hid hq'
  have AS := Lib.hid aS
  have AT := Lib.hid aT
  clear hm' hq' hT hS hcT hcS aS aT hb hsz
  go_enter Try.func11, Try.ntmps11
  go_wp2
  obtain ⟨W, hW⟩ : ∃ W, W = w.alloc (.cells #[.slice oT q cT, .slice oS m cS] 25) := ⟨_, rfl⟩
  have hG : Gr w W := by rw [hW]; exact Gr.alloc _ _
  have bx : Blk W w.heap.size #[.slice oT q cT, .slice oS m cS] 25 := by rw [hW]; exact Blk.new _ _ _
  rw [← hW]
  clear hW
  have HBX := Lib.hid bx
  have c0 := bx.cell 0
  have c1 := bx.cell 1
  simp only [List.getElem?_toArray, List.getElem?_cons_zero, List.getElem?_cons_succ] at c0 c1
  clear bx
  go_loop [3] (fun v => ∃ M : Nat, v = .int .i64 (M : Int) ∧ Dbl m M) (fun v => 2 * m - (intOf v).toNat)
  case atStart => exact ⟨8, rfl, Dbl.start m⟩
  case round =>
    obtain ⟨M, rfl, hD⟩ := hrel
    have h8 := hD.pos
    by_cases hlt : M < m
    · have HD := Lib.hid (hD.step hlt)
      clear hD
      go_wp2
      go_round
      case rel => exact ⟨2 * M, by go_num, HD.out⟩
      case measure => simp [intOf]; omega
    · have hend := Lib.hid (hD.end_ (by omega))
      have hMb : M ≤ 2000000000 := by obtain ⟨k, _, c⟩ := hD; omega
      clear hD
      by_cases h1 : m = M
      · subst h1
        have hz8 := hend.out.1 rfl
        have h1' : ((m : Int) != (m : Int)) = false := by simp
        have HZ8 := Lib.hid hz8
        clear hend hz8
        by_cases h2 : q ≤ 1024
        · have h2' : decide (1024 < (q : Int)) = false := by simp; omega
          by_cases h3 : 2 * q ≤ m
          · have h3' : decide ((m : Int) < 2 * (q : Int)) = false := by simp; omega
            go_wp2
            go_loop [5, 37] (fun _ i => ∃ k : Nat, k ≤ m ∧ i = .int .i64 k ∧ Hid (∀ x ∈ S.take k, 0 ≤ x ∧ x ≤ (q : Int))) (fun _ i => m - (intOf i).toNat)
            case atStart => exact ⟨0, Nat.zero_le _, rfl, Lib.hid (by simp)⟩
            case round =>
              obtain ⟨k, hk, rfl, hin⟩ := hrel
              by_cases hlt : k < m
              · have hkl : k < S.length := by have := HM.out; omega
                obtain ⟨bS, fS, rfl, hbS, hcS⟩ := AS.out.resolve_left (fun e => by rw [e] at hkl; simp at hkl)
                have d1 := (hG.below.cell (p := ⟨bS, fS + k, none⟩) hbS).trans (hcS k hkl)
                have htake : S.take (k + 1) = S.take k ++ [S[k]] := List.take_succ_eq_append_getElem hkl
                obtain ⟨y, hy⟩ : ∃ y, y = S[k] := ⟨_, rfl⟩
                have hmem : y ∈ S := by rw [hy]; exact List.getElem_mem hkl
                rw [← hy] at d1 htake
                have HMEM := Lib.hid hmem
                have HTK := Lib.hid htake
                clear hy hcS hmem htake
                by_cases g1 : y < 0
                · have g1' : decide (y < 0) = true := by simpa using g1
                  obtain rfl := bF HB.out (fun e => by have := e.2.1 _ HMEM.out; omega)
                  go_wp2
                  go_ret
                  exact ⟨rfl, hG⟩
                · have g1' : decide (y < 0) = false := by simpa using g1
                  by_cases g2 : y ≤ (q : Int)
                  · have g2' : decide ((q : Int) < y) = false := by simpa using g2
                    have hin' : ∀ x ∈ S.take (k + 1), 0 ≤ x ∧ x ≤ (q : Int) := by
                      rw [HTK.out]
                      intro x hx
                      rcases List.mem_append.1 hx with hx | hx
                      · exact hin.out x hx
                      · obtain rfl : x = y := by simpa using hx
                        omega
                    have HIN := Lib.hid hin'
                    clear hin'
                    go_wp2
                    go_round
                    case rel => exact ⟨k + 1, by omega, by go_num, HIN⟩
                    case measure => simp [intOf]; omega
                  · have g2' : decide ((q : Int) < y) = true := by simpa using g2
                    obtain rfl := bF HB.out (fun e => g2 (e.2.1 _ HMEM.out).2)
                    go_wp2
                    go_ret
                    exact ⟨rfl, hG⟩
              · have hS : S.take k = S := List.take_of_length_le (by have := HM.out; omega)
                rw [hS] at hin
                clear hS
                go_wp2
                go_loopw [6, 7, 54] (fun _ _ i wr => ∃ k : Nat, k ≤ q ∧ i = .int .i64 k ∧ Gr W wr ∧ Hid (∀ n (h : n < T.length), n < k → fdI T T[n] = (n : Int) ∧ Stands (hsh T[n]) S n)) (fun _ _ i _ => q - (intOf i).toNat)
                case atStart => exact ⟨0, Nat.zero_le _, rfl, Gr.refl _, Lib.hid (fun n _ h => by omega)⟩
                case round =>
                  obtain ⟨k, hk, rfl, hGr, hall⟩ := hrel
                  have bx := HBX.out.gr hGr
                  have e0 := bx.cell 0
                  have e1 := bx.cell 1
                  simp only [List.getElem?_toArray, List.getElem?_cons_zero, List.getElem?_cons_succ] at e0 e1
                  by_cases hlt : k < q
                  · have hkl : k < T.length := by have := HQ.out; omega
                    have hGw := hG.trans hGr
                    obtain ⟨bT', fT, rfl, hbT, hcT⟩ := AT.out.resolve_left (fun e => by rw [e] at hkl; simp at hkl)
                    have d1 := (hGw.below.cell (p := ⟨bT', fT + k, none⟩) hbT).trans (hcT k hkl)
                    have hfind := rfind_any _ T T[k] wr (HT.out.gr hGw)
                    obtain ⟨b2, hb2⟩ := bool_of (Stands (hsh T[k]) S k)
                    have hst := stands_any _ _ T S k hkl wr (HT.out.gr hGw) (HS.out.gr hGw) (by have := HM.out; have := HZ8.out.1; omega) (by have := HM.out; omega) (by have := HQ.out; omega) HSZ.out b2 hb2
                    obtain ⟨y, hy⟩ : ∃ y, y = fdI T T[k] := ⟨_, rfl⟩
                    rw [← hy] at hfind
                    have HY := Lib.hid hy
                    have HB2 := Lib.hid hb2
                    obtain ⟨s, hs⟩ : ∃ s, s = T[k] := ⟨_, rfl⟩
                    rw [← hs] at d1 hfind
                    have HF := Lib.hid hfind
                    have HST := Lib.hid hst
                    clear hy hb2 hs hfind hst hcT hbT
                    by_cases g1 : y = (k : Int)
                    · have g1' : (y != (k : Int)) = false := eq_i g1
                      have G1 := Lib.hid g1
                      clear g1
                      cases b2
                      · obtain rfl := bF HB.out (fun e => by have := HB2.out.2 (e.2.2 k hkl).2; cases this)
                        go_wp2_with (first | (go_at_call 15; refine HF.out.mono ?_; rintro e w' ⟨rfl, rfl⟩) | (go_at_call 30; refine HST.out.mono ?_; rintro e w' ⟨rfl, g⟩))
                        go_ret
                        exact ⟨rfl, hGw.trans g⟩
                      · go_wp2_with (first | (go_at_call 15; refine HF.out.mono ?_; rintro e w' ⟨rfl, rfl⟩) | (go_at_call 30; refine HST.out.mono ?_; rintro e w' ⟨rfl, g⟩))
                        go_roundw
                        case rel =>
                          refine ⟨k + 1, by omega, by go_num, hGr.trans g, Lib.hid fun n hn hnk => ?_⟩
                          by_cases c : n < k
                          · exact hall.out n hn c
                          · obtain rfl : n = k := by omega
                            exact ⟨HY.out.symm.trans G1.out, HB2.out.1 trivial⟩
                        case measure => simp [intOf]; omega
                    · have g1' : (y != (k : Int)) = true := ne_i g1
                      obtain rfl := bF HB.out (fun e => g1 (HY.out.trans (e.2.2 k hkl).1))
                      clear g1
                      go_wp2_with (go_at_call 15; refine HF.out.mono ?_; rintro e w' ⟨rfl, rfl⟩)
                      go_ret
                      exact ⟨rfl, hGw⟩
                  · obtain rfl := bT HB.out ⟨⟨h2, HZ8.out.1, HZ8.out.2, h3⟩, hin.out, fun n hn => hall.out n hn (by have := HQ.out; omega)⟩
                    go_wp2
                    go_ret
                    exact ⟨rfl, hG.trans hGr⟩
          · have h3' : decide ((m : Int) < 2 * (q : Int)) = true := by simp; omega
            obtain rfl := bF HB.out (fun e => h3 e.1.2.2.2)
            go_wp2
            go_ret
            exact ⟨rfl, hG⟩
        · have h2' : decide (1024 < (q : Int)) = true := by simp; omega
          obtain rfl := bF HB.out (fun e => h2 e.1.1)
          go_wp2
          go_ret
          exact ⟨rfl, hG⟩
      · have h1' : ((m : Int) != (M : Int)) = true := by simp; omega
        obtain rfl := bF HB.out (fun e => h1 (hend.out.2 ⟨e.1.2.1, e.1.2.2.1⟩))
        go_wp2
        go_ret
        exact ⟨rfl, hG⟩
end Go.Proofs.Ytfnlegnieilcbaa
