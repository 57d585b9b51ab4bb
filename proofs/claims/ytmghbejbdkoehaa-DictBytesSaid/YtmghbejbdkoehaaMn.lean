import Derived.Test.YtmghbejbdkoehaaMm
import Derived.Test.YtmghbejbdkoehaaMl
/- The reference's Right. -/
namespace Go.Proofs.Kit
section
variable {α : Type} [DecidableEq α] {T : List α} {S : List Int} {hs : α → Nat}
/-- Each text is its number's alone, and its number stands. -/
def Ech (hs : α → Nat) (T : List α) (S : List Int) : Prop := ∀ n (h : n < T.length), fdI T T[n] = (n : Int) ∧ Stands (hs T[n]) S n
/-- A table that may be, by its parts. -/
theorem good_iff : Good hs T S ↔ Szd T S ∧ (∀ x ∈ S, 0 ≤ x ∧ x ≤ (T.length : Int)) ∧ Ech hs T S := by
  constructor
  · intro h
    have hnd := h.nodup
    refine ⟨h.sz, h.fl.1, fun n hn => ⟨?_, ?_⟩⟩
    · unfold fdI
      rw [if_pos (List.getElem_mem hn), pos_first hn (fun i hi hlt e => by have := (List.getElem_inj hnd).1 e; omega) rfl]
    · obtain ⟨i, hi, h1, h2⟩ := h.part.sits n hn
      exact ⟨i, hi, h1, h2, fun j hj e => prb_inj hj hi (h.part.one (by rw [e, h1]) (by rw [e]; omega))⟩
  · rintro ⟨hz, hn, h⟩
    have hnd : T.Nodup := by
      unfold List.Nodup
      rw [List.pairwise_iff_getElem]
      intro i j hi hj hij e
      have h1 := (h i hi).1
      have h2 := (h j hj).1
      rw [e, h2] at h1
      omega
    have hl : (S.filter (fun x => decide (x ≠ 0))).Nodup := by
      unfold List.Nodup
      rw [List.pairwise_filter, List.pairwise_iff_getElem]
      intro p q hp hq hpq hp0 hq0 e
      have hp0' : S[p] ≠ 0 := by simpa using hp0
      have hb := hn _ (List.getElem_mem hp)
      obtain ⟨k, hk⟩ : ∃ k : Nat, S[p] = (k : Int) + 1 := ⟨(S[p] - 1).toNat, by omega⟩
      obtain ⟨i, _, _, _, hu⟩ := (h k (by omega)).2
      obtain ⟨i1, h1, e1⟩ := prb_all (m := S.length) (by omega) (hs (T[k]'(by omega))) p hp
      obtain ⟨i2, h2, e2⟩ := prb_all (m := S.length) (by omega) (hs (T[k]'(by omega))) q hq
      have a1 := hu i1 h1 (by rw [e1, at0_lt hp, hk])
      have a2 := hu i2 h2 (by rw [e2, at0_lt hq, ← e, hk])
      have a3 : i1 = i2 := a1.trans a2.symm
      have hk2 : k < T.length := by omega
      have e3 : prb (hs T[k]) S.length i1 = prb (hs T[k]) S.length i2 := by rw [a3]
      have : p = q := e1.symm.trans (e3.trans e2)
      omega
    have hc : taken S = T.length := by
      have hp := (List.perm_ext_iff_of_nodup hl (nodup_nums T.length)).2 (fun x => by
        rw [List.mem_filter, List.mem_map]
        constructor
        · rintro ⟨hx, h0⟩
          have h0' : x ≠ 0 := by simpa using h0
          have := hn x hx
          exact ⟨(x - 1).toNat, List.mem_range.2 (by omega), by omega⟩
        · rintro ⟨k, hk, rfl⟩
          obtain ⟨i, hi, h1, _⟩ := (h k (List.mem_range.1 hk)).2
          exact ⟨by rw [← h1]; exact (at0_mem (by rw [h1]; omega)).2, by simp; omega⟩)
      have := hp.length_eq
      rw [← List.countP_eq_length_filter, List.length_map, List.length_range] at this
      exact this
    refine Good.of_part hz ⟨Nat.le_refl _, hn, hc, fun k hk => ?_⟩ hnd
    obtain ⟨i, a, b, c, _⟩ := (h k hk).2
    exact ⟨i, a, b, c⟩
end
/-- A number that was doubled, from 8 on. -/
def Dbl (m M : Nat) : Prop := ∃ k, M = 8 * 2 ^ k ∧ (M = 8 ∨ M < 2 * m)
theorem Dbl.start (m : Nat) : Dbl m 8 := ⟨0, rfl, .inl rfl⟩
theorem Dbl.step {m M : Nat} (h : Dbl m M) (hlt : M < m) : Dbl m (2 * M) := by
  obtain ⟨k, rfl, _⟩ := h
  exact ⟨k + 1, by rw [Nat.pow_succ]; omega, .inr (by omega)⟩
theorem Dbl.pos {m M : Nat} (h : Dbl m M) : 8 ≤ M := by
  obtain ⟨k, rfl, _⟩ := h
  have := Nat.one_le_two_pow (n := k)
  omega
theorem Dbl.end_ {m M : Nat} (h : Dbl m M) (hge : m ≤ M) : m = M ↔ 8 ≤ m ∧ m &&& (m - 1) = 0 := by
  have h8 := h.pos
  obtain ⟨k, hk, hM⟩ := h
  have hk' : M = 2 ^ (k + 3) := by rw [hk, Nat.pow_add]; omega
  constructor
  · rintro rfl
    exact ⟨h8, pow_and ⟨_, hk'⟩⟩
  · rintro ⟨h1, h2⟩
    rcases hM with c | c
    · omega
    · obtain ⟨j, hj⟩ := and_pow m (by omega) h2
      have a : j ≤ k + 3 := (Nat.pow_le_pow_iff_right (a := 2) (by omega)).1 (by rw [← hj, ← hk']; exact hge)
      have b : k + 3 < j + 1 := (Nat.pow_lt_pow_iff_right (a := 2) (by omega)).1 (by rw [← hk', Nat.pow_succ, ← hj]; omega)
      have : j = k + 3 := by omega
      rw [hj, hk', this]
end Go.Proofs.Kit
namespace Go.Proofs.Ytmghbejbdkoehaa
open Go.RowKit Go.Proofs.Kit Go.Shelf

set_option maxRecDepth 100000 in
set_option maxHeartbeats 3000000 in
theorem right_any (vT vS : Value) (T : List ByteArray) (S : List Int) (w : World) (hT : Sl w vT (T.map Value.string)) (hS : Sl w vS (S.map (Value.int .i64))) (hm : S.length ≤ 1000000000) (hTl : T.length ≤ 1000000000) (hsz : ∀ s ∈ T, s.size ≤ 9223372036854775807) (b : Bool) (hb : b = true ↔ Kit.Good hsh T S) :
    Calls Try.prog 39 #[.agg #[vT, vS]] w fun e w' => e = .returned (.bool b) ∧ Gr w w' := by
  rw [good_iff] at hb
  have HT := Lib.hid hT
  have HS := Lib.hid hS
  have HSZ := Lib.hid hsz
  obtain ⟨oT, cT, rfl, hcT, hmT, aT⟩ := hT.mshape
  obtain ⟨oS, cS, rfl, hcS, hmS, aS⟩ := hS.mshape
  unfold Szd at hb
  obtain ⟨m, hm'⟩ : ∃ m, m = S.length := ⟨_, rfl⟩
  obtain ⟨q, hq'⟩ : ∃ q, q = T.length := ⟨_, rfl⟩
  have HB := Lib.hid hb
  rw [← hm'] at hm HS HB ⊢
  rw [← hq'] at hTl HT HB ⊢
  have HM := Lib.hid hm'
  have HQ := Lib.hid hq'
  have AS := Lib.hid aS
  have AT := Lib.hid aT
  clear hm' hq' hT hS hcT hcS aS aT hb hsz
  go_enter Try.func39, Try.ntmps39
  go_wp2
  obtain ⟨W, hW⟩ : ∃ W, W = w.alloc (.cells #[.slice oT q cT, .slice oS m cS] 25) := ⟨_, rfl⟩
  have hG : Gr w W := by rw [hW]; exact Gr.alloc _ _
  have bx : Blk W w.heap.size #[.slice oT q cT, .slice oS m cS] 25 := by rw [hW]; exact Blk.new _ _ _
  rw [← hW]
  clear hW
  have HBX := Lib.hid bx
  have c0 := bx.cell 0
  have c1 := bx.cell 1
  simp only [List.getElem?_toArray, List.getElem?_cons_zero, List.getElem?_cons_succ] at c0 c1
  clear bx
  go_loop [3] (fun v => ∃ M : Nat, v = .int .i64 (M : Int) ∧ Dbl m M) (fun v => 2 * m - (intOf v).toNat)
  case atStart => exact ⟨8, rfl, Dbl.start m⟩
  case round =>
    obtain ⟨M, rfl, hD⟩ := hrel
    have h8 := hD.pos
    by_cases hlt : M < m
    · have HD := Lib.hid (hD.step hlt)
      clear hD
      go_wp2
      go_round
      case rel => exact ⟨2 * M, by go_num, HD.out⟩
      case measure => simp [intOf]; omega
    · have hend := Lib.hid (hD.end_ (by omega))
      have hMb : M ≤ 2000000000 := by obtain ⟨k, _, c⟩ := hD; omega
      clear hD
      by_cases h1 : m = M
      · subst h1
        have hz8 := hend.out.1 rfl
        have h1' : ((m : Int) != (m : Int)) = false := by simp
        have HZ8 := Lib.hid hz8
        clear hend hz8
        by_cases h2 : q ≤ 1024
        · have h2' : decide (1024 < (q : Int)) = false := by simp; omega
          by_cases h3 : 2 * q ≤ m
          · have h3' : decide ((m : Int) < 2 * (q : Int)) = false := by simp; omega
            go_wp2
            go_loop [5, 37] (fun _ i => ∃ k : Nat, k ≤ m ∧ i = .int .i64 k ∧ Hid (∀ x ∈ S.take k, 0 ≤ x ∧ x ≤ (q : Int))) (fun _ i => m - (intOf i).toNat)
            case atStart => exact ⟨0, Nat.zero_le _, rfl, Lib.hid (by simp)⟩
            case round =>
              obtain ⟨k, hk, rfl, hin⟩ := hrel
              by_cases hlt : k < m
              · have hkl : k < S.length := by have := HM.out; omega
                obtain ⟨bS, fS, rfl, hbS, hcS⟩ := AS.out.resolve_left (fun e => by rw [e] at hkl; simp at hkl)
                have d1 := (hG.below.cell (p := ⟨bS, fS + k, none⟩) hbS).trans (hcS k hkl)
                have htake : S.take (k + 1) = S.take k ++ [S[k]] := List.take_succ_eq_append_getElem hkl
                obtain ⟨y, hy⟩ : ∃ y, y = S[k] := ⟨_, rfl⟩
                have hmem : y ∈ S := by rw [hy]; exact List.getElem_mem hkl
                rw [← hy] at d1 htake
                have HMEM := Lib.hid hmem
                have HTK := Lib.hid htake
                clear hy hcS hmem htake
                by_cases g1 : y < 0
                · have g1' : decide (y < 0) = true := by simpa using g1
                  obtain rfl := bF HB.out (fun e => by have := e.2.1 _ HMEM.out; omega)
                  go_wp2
                  go_ret
                  exact ⟨rfl, hG⟩
                · have g1' : decide (y < 0) = false := by simpa using g1
                  by_cases g2 : y ≤ (q : Int)
                  · have g2' : decide ((q : Int) < y) = false := by simpa using g2
                    have hin' : ∀ x ∈ S.take (k + 1), 0 ≤ x ∧ x ≤ (q : Int) := by
                      rw [HTK.out]
                      intro x hx
                      rcases List.mem_append.1 hx with hx | hx
                      · exact hin.out x hx
                      · obtain rfl : x = y := by simpa using hx
                        omega
                    have HIN := Lib.hid hin'
                    clear hin'
                    go_wp2
                    go_round
                    case rel => exact ⟨k + 1, by omega, by go_num, HIN⟩
                    case measure => simp [intOf]; omega
                  · have g2' : decide ((q : Int) < y) = true := by simpa using g2
                    obtain rfl := bF HB.out (fun e => g2 (e.2.1 _ HMEM.out).2)
                    go_wp2
                    go_ret
                    exact ⟨rfl, hG⟩
              · have hS : S.take k = S := List.take_of_length_le (by have := HM.out; omega)
                rw [hS] at hin
                clear hS
                go_wp2
                go_loopw [6, 7, 54] (fun _ _ i wr => ∃ k : Nat, k ≤ q ∧ i = .int .i64 k ∧ Gr W wr ∧ Hid (∀ n (h : n < T.length), n < k → fdI T T[n] = (n : Int) ∧ Stands (hsh T[n]) S n)) (fun _ _ i _ => q - (intOf i).toNat)
                case atStart => exact ⟨0, Nat.zero_le _, rfl, Gr.refl _, Lib.hid (fun n _ h => by omega)⟩
                case round =>
                  obtain ⟨k, hk, rfl, hGr, hall⟩ := hrel
                  have bx := HBX.out.gr hGr
                  have e0 := bx.cell 0
                  have e1 := bx.cell 1
                  simp only [List.getElem?_toArray, List.getElem?_cons_zero, List.getElem?_cons_succ] at e0 e1
                  by_cases hlt : k < q
                  · have hkl : k < T.length := by have := HQ.out; omega
                    have hGw := hG.trans hGr
                    obtain ⟨bT', fT, rfl, hbT, hcT⟩ := AT.out.resolve_left (fun e => by rw [e] at hkl; simp at hkl)
                    have d1 := (hGw.below.cell (p := ⟨bT', fT + k, none⟩) hbT).trans (hcT k hkl)
                    have hfind := rfind_any _ T T[k] wr (HT.out.gr hGw)
                    obtain ⟨b2, hb2⟩ := bool_of (Stands (hsh T[k]) S k)
                    have hst := stands_any _ _ T S k hkl wr (HT.out.gr hGw) (HS.out.gr hGw) (by have := HM.out; have := HZ8.out.1; omega) (by have := HM.out; omega) (by have := HQ.out; omega) HSZ.out b2 hb2
                    obtain ⟨y, hy⟩ : ∃ y, y = fdI T T[k] := ⟨_, rfl⟩
                    rw [← hy] at hfind
                    have HY := Lib.hid hy
                    have HB2 := Lib.hid hb2
                    obtain ⟨s, hs⟩ : ∃ s, s = T[k] := ⟨_, rfl⟩
                    rw [← hs] at d1 hfind
                    have HF := Lib.hid hfind
                    have HST := Lib.hid hst
                    clear hy hb2 hs hfind hst hcT hbT
                    by_cases g1 : y = (k : Int)
                    · have g1' : (y != (k : Int)) = false := eq_i g1
                      have G1 := Lib.hid g1
                      clear g1
                      cases b2
                      · obtain rfl := bF HB.out (fun e => by have := HB2.out.2 (e.2.2 k hkl).2; cases this)
                        go_wp2_with (first | (go_at_call 50; refine HF.out.mono ?_; rintro e w' ⟨rfl, rfl⟩) | (go_at_call 62; refine HST.out.mono ?_; rintro e w' ⟨rfl, g⟩))
                        go_ret
                        exact ⟨rfl, hGw.trans g⟩
                      · go_wp2_with (first | (go_at_call 50; refine HF.out.mono ?_; rintro e w' ⟨rfl, rfl⟩) | (go_at_call 62; refine HST.out.mono ?_; rintro e w' ⟨rfl, g⟩))
                        go_roundw
                        case rel =>
                          refine ⟨k + 1, by omega, by go_num, hGr.trans g, Lib.hid fun n hn hnk => ?_⟩
                          by_cases c : n < k
                          · exact hall.out n hn c
                          · obtain rfl : n = k := by omega
                            exact ⟨HY.out.symm.trans G1.out, HB2.out.1 trivial⟩
                        case measure => simp [intOf]; omega
                    · have g1' : (y != (k : Int)) = true := ne_i g1
                      obtain rfl := bF HB.out (fun e => g1 (HY.out.trans (e.2.2 k hkl).1))
                      clear g1
                      go_wp2_with (go_at_call 50; refine HF.out.mono ?_; rintro e w' ⟨rfl, rfl⟩)
                      go_ret
                      exact ⟨rfl, hGw⟩
                  · obtain rfl := bT HB.out ⟨⟨h2, HZ8.out.1, HZ8.out.2, h3⟩, hin.out, fun n hn => hall.out n hn (by have := HQ.out; omega)⟩
                    go_wp2
                    go_ret
                    exact ⟨rfl, hG.trans hGr⟩
          · have h3' : decide ((m : Int) < 2 * (q : Int)) = true := by simp; omega
            obtain rfl := bF HB.out (fun e => h3 e.1.2.2.2)
            go_wp2
            go_ret
            exact ⟨rfl, hG⟩
        · have h2' : decide (1024 < (q : Int)) = true := by simp; omega
          obtain rfl := bF HB.out (fun e => h2 e.1.1)
          go_wp2
          go_ret
          exact ⟨rfl, hG⟩
      · have h1' : ((m : Int) != (M : Int)) = true := by simp; omega
        obtain rfl := bF HB.out (fun e => h1 (hend.out.2 ⟨e.1.2.1, e.1.2.2.1⟩))
        go_wp2
        go_ret
        exact ⟨rfl, hG⟩
end Go.Proofs.Ytmghbejbdkoehaa


/- Equal against an argument; same. -/
namespace Go.Proofs.Ytmghbejbdkoehaa
open Go.RowKit Go.Proofs.Kit Go.Shelf

set_option maxRecDepth 100000 in
set_option maxHeartbeats 1000000 in
theorem equals_arg (b1 f1 n c1 c2 : Nat) (a : Addr) (l : List ByteArray) (w : World) (hn : n ≤ 9223372036854775807) (e1 : l.length = n)
    (hc1 : ∀ i (h : i < l.length), w.cell? ⟨b1, f1 + i, none⟩ = some (Value.string l[i])) (hc2 : ∀ i (h : i < l.length), w.cell? (a.add i) = some (Value.string l[i])) :
    Calls Try.prog 22 #[.slice (some ⟨b1, f1, none⟩) n c1, .slice (some a) n c2] w fun e w' => e = .returned (.bool true) ∧ Dr w w' := by
  have H1 := Lib.hid hc1; clear hc1
  have H2 := Lib.hid hc2; clear hc2
  have E1 := Lib.hid e1; clear e1
  go_enter Try.func22, Try.ntmps22
  go_wp2
  go_loopw [5, 13] (fun _ i wr => ∃ k : Nat, k ≤ n ∧ i = .int .i64 k ∧ Dr w wr) (fun _ i _ => n - (intOf i).toNat)
  case atStart => exact ⟨0, Nat.zero_le _, rfl, Dr.refl _⟩
  case round =>
    obtain ⟨k, hk, rfl, hB⟩ := hrel
    by_cases hlt : k < n
    · have k1 : k < l.length := by have := E1.out; omega
      have d1 : wr.cell? ⟨b1, f1 + k, none⟩ = some (Value.string l[k]) := (hB.cell ⟨b1, f1 + k, none⟩).trans (H1.out k k1)
      have d2 : wr.cell? (a.add k) = some (Value.string l[k]) := (hB.cell (a.add k)).trans (H2.out k k1)
      obtain ⟨x, hx⟩ : ∃ x, x = l[k] := ⟨_, rfl⟩
      rw [← hx] at d1 d2
      have ht := eq_s (rfl : x = x)
      clear hx
      go_wp2
      go_quiet (fail)
      go_wp2
      go_roundw
      case rel => exact ⟨k + 1, by omega, by go_num, hB.trans (Dr.drewN _ _)⟩
      case measure => simp [intOf]; omega
    · go_wp2
      go_ret
      exact ⟨rfl, hB⟩
theorem equals_raw (v1 : Value) (o : Option Addr) (n c : Nat) (l : List ByteArray) (w : World) (h1 : Sl w v1 (l.map Value.string)) (hl : l.length = n) (h2 : ArgV w o c (l.map Value.string)) :
    Calls Try.prog 22 #[v1, .slice o n c] w fun e w' => e = .returned (.bool true) ∧ Dr w w' := by
  subst hl
  obtain ⟨o1, c1, rfl, hc1, hm1, a1⟩ := h1.mshape
  rcases a1 with rfl | ⟨b1, f1, rfl, q1, a1⟩
  · exact (equals_none o1 o c1 c w).mono fun e w' ⟨he, hw⟩ => ⟨he, hw ▸ Dr.refl _⟩
  · rcases h2 with ⟨rfl, h, rfl⟩ | ⟨a, rfl, h⟩
    · obtain rfl : l = [] := by simpa using h
      exact (equals_none _ _ c1 0 w).mono fun e w' ⟨he, hw⟩ => ⟨he, hw ▸ Dr.refl _⟩
    · exact equals_arg b1 f1 l.length c1 c a l w (by omega) rfl a1 (fun i hi => by have := h i (by simpa using hi); rw [List.getElem_map] at this; exact this)
set_option maxRecDepth 100000 in
set_option maxHeartbeats 1000000 in
theorem equali_arg (b1 f1 n c1 c2 : Nat) (a : Addr) (l : List Int) (w : World) (hn : n ≤ 9223372036854775807) (e1 : l.length = n)
    (hc1 : ∀ i (h : i < l.length), w.cell? ⟨b1, f1 + i, none⟩ = some ((Value.int .i64) l[i])) (hc2 : ∀ i (h : i < l.length), w.cell? (a.add i) = some ((Value.int .i64) l[i])) :
    Calls Try.prog 47 #[.slice (some ⟨b1, f1, none⟩) n c1, .slice (some a) n c2] w fun e w' => e = .returned (.bool true) ∧ Dr w w' := by
  have H1 := Lib.hid hc1; clear hc1
  have H2 := Lib.hid hc2; clear hc2
  have E1 := Lib.hid e1; clear e1
  go_enter Try.func47, Try.ntmps47
  go_wp2
  go_loopw [5, 13] (fun _ i wr => ∃ k : Nat, k ≤ n ∧ i = .int .i64 k ∧ Dr w wr) (fun _ i _ => n - (intOf i).toNat)
  case atStart => exact ⟨0, Nat.zero_le _, rfl, Dr.refl _⟩
  case round =>
    obtain ⟨k, hk, rfl, hB⟩ := hrel
    by_cases hlt : k < n
    · have k1 : k < l.length := by have := E1.out; omega
      have d1 : wr.cell? ⟨b1, f1 + k, none⟩ = some ((Value.int .i64) l[k]) := (hB.cell ⟨b1, f1 + k, none⟩).trans (H1.out k k1)
      have d2 : wr.cell? (a.add k) = some ((Value.int .i64) l[k]) := (hB.cell (a.add k)).trans (H2.out k k1)
      obtain ⟨x, hx⟩ : ∃ x, x = l[k] := ⟨_, rfl⟩
      rw [← hx] at d1 d2
      have ht := eq_i (rfl : x = x)
      clear hx
      go_wp2
      go_quiet (fail)
      go_wp2
      go_roundw
      case rel => exact ⟨k + 1, by omega, by go_num, hB.trans (Dr.drewN _ _)⟩
      case measure => simp [intOf]; omega
    · go_wp2
      go_ret
      exact ⟨rfl, hB⟩
theorem equali_raw (v1 : Value) (o : Option Addr) (n c : Nat) (l : List Int) (w : World) (h1 : Sl w v1 (l.map (Value.int .i64))) (hl : l.length = n) (h2 : ArgV w o c (l.map (Value.int .i64))) :
    Calls Try.prog 47 #[v1, .slice o n c] w fun e w' => e = .returned (.bool true) ∧ Dr w w' := by
  subst hl
  obtain ⟨o1, c1, rfl, hc1, hm1, a1⟩ := h1.mshape
  rcases a1 with rfl | ⟨b1, f1, rfl, q1, a1⟩
  · exact (equali_none o1 o c1 c w).mono fun e w' ⟨he, hw⟩ => ⟨he, hw ▸ Dr.refl _⟩
  · rcases h2 with ⟨rfl, h, rfl⟩ | ⟨a, rfl, h⟩
    · obtain rfl : l = [] := by simpa using h
      exact (equali_none _ _ c1 0 w).mono fun e w' ⟨he, hw⟩ => ⟨he, hw ▸ Dr.refl _⟩
    · exact equali_arg b1 f1 l.length c1 c a l w (by omega) rfl a1 (fun i hi => by have := h i (by simpa using hi); rw [List.getElem_map] at this; exact this)

end Go.Proofs.Ytmghbejbdkoehaa


/- append: where the row lies then; own and same of tables that read as lists; the reference's Put. -/
namespace Go.Proofs.Kit
open Go.RowKit
theorem append_where {P : Program} (w : World) (base : Nat) (t ty e : TypeId) (i : TypeInfo) (z : Value) (ht : P.underlying t = some (.slice e)) (hi : P.info? e = some i) (hz : i.zero = some z) (hsz : i.size = 1)
    (v : Value) (n : Nat) (xs : List Value) (hown : w.ownsRow base e 1 v n xs)
    (a : Addr) (m c : Nat) (news : List Value) (hl : news.length = m) (hnews : ∀ j u, news[j]? = some u → w.cell? (a.add j) = some u) (h1 : ∀ u ∈ news, u.oneCell' = true)
    (h63 : n + m ≤ maxLen) (hbytes : (n + m) * i.bytes ≤ 140737488355328) (v' : Value) (w' : World) (hr : (Builtin.append_ #[t, t] ty #[v, .slice (some a) m c]).run P w = .ok v' w') :
    v'.ownBlock = v.ownBlock ∨ v'.ownBlock = some w.heap.size := by
  have hl' : news.length = m * i.size := by rw [hsz]; omega
  rcases hown.2 with ⟨rfl, rfl⟩ | ⟨g, cap, cur, rfl, hbg, hg, hnc, hcm, hcs, htake⟩
  · have hx : xs = [] := List.eq_nil_of_length_eq_zero (by simpa using hown.1)
    subst hx
    by_cases hm : m = 0
    · subst hm
      have hn : news = [] := List.eq_nil_of_length_eq_zero hl
      subst hn
      left
      have hr0 : (Builtin.append_ #[t, t] ty #[.slice none 0 0, .slice (some a) 0 c]).run P w = .ok (.slice none 0 0) w := by
        simp [Builtin.append_, run_underlying ht, sizeOf, typeInfo, hi, Builtin.lenOf, Builtin.firstCells, loadCells, loadCellsFrom]
      rw [hr0] at hr
      injection hr with e1 _
      rw [← e1]
    · have hr0 := run_append_nil (P := P) w t ty e i z ht hi hz a m c news hl' hnews (by omega) (by simp only [maxLen] at h63; omega) (by have hb := hbytes; simp only [Nat.zero_add] at hb; omega)
      rw [hr0] at hr
      injection hr with e1 _
      rw [← e1]
      exact .inr rfl
  · by_cases hroom : n + m ≤ cap
    · have hfit : n * i.size + news.length ≤ cur.size := by rw [hl, hsz]; omega
      have hr0 := run_append_room (P := P) w t ty e i ht hi g n cap cur hg a m c news hl' hnews h1 hroom hfit
      rw [hr0] at hr
      injection hr with e1 _
      rw [← e1]
      exact .inl rfl
    · have holds : ∀ j u, xs[j]? = some u → w.cell? ((⟨g, 0, none⟩ : Addr).add j) = some u := hown.cells (g := g) rfl
      have hr0 := run_append_grow (P := P) w t ty e i z ht hi hz ⟨g, 0, none⟩ n cap xs (by rw [hsz]; simpa using hown.1) holds a m c news hl' hnews (by omega) (by simp only [maxLen] at h63; omega) (growslice_fits (by omega) hbytes)
      rw [hr0] at hr
      injection hr with e1 _
      rw [← e1]
      exact .inr rfl
theorem wp_append_sl2 {P : Program} {w : World} {o : Oper} {a : Act} {K : Act → World → Prop} {Q : Exit → Act → World → Prop} (s x : Operand) (t : TypeId)
    (ho : o.op = .call { callee := .builtin .append, args := #[s, x], argTypes := #[t, t] })
    (base : Nat) (e : TypeId) (i : TypeInfo) (z : Value) (bytes : Nat) (ht : P.underlying t = some (.slice e)) (hi : P.info? e = some i) (hz : i.zero = some z) (hsize : i.size = 1) (hby : i.bytes = bytes) (hzs : z.cells.size = 1)
    (v : Value) (l : List Value) (hs : a.eval s = v) (hown : Ow e base w v l) (vx : Value) (m : List Value) (hx : a.eval x = vx) (hm : Sl w vx m) (hm0 : m ≠ []) (hm1 : ∀ y ∈ m, y.oneCell' = true)
    (h63 : l.length + m.length ≤ 9223372036854775807) (hbytes : (l.length + m.length) * bytes ≤ 140737488355328) (hbase : base ≤ w.heap.size)
    (h : ∀ v' w', Ow e base w' v' (l ++ m) → w.grownBy w' v.ownBlock → (v'.ownBlock = v.ownBlock ∨ v'.ownBlock = some w.heap.size) → K (a.put o.dst v') w') : o.wp P a w K Q := by
  rcases hm.2 with ⟨_, rfl⟩ | ⟨b, f, c, rfl, h2, h3, h4, h5⟩
  · exact (hm0 rfl).elim
  · subst hby
    have hnews : ∀ j u, m[j]? = some u → w.cell? ((⟨b, f, none⟩ : Addr).add j) = some u := by
      intro j u hj
      have hj' : j < m.length := (List.getElem?_eq_some_iff.1 hj).1
      rw [Addr.add_lit, h5 j hj', ← hj]
      simp [hj']
    obtain ⟨v', w', hr, hO, hG, _⟩ := run_append_own (P := P) w base t o.type e i z 1 i.bytes ht hi hz hsize rfl hzs (by decide) v _ _ hown ⟨b, f, none⟩ m.length c m (by simp) hnews hm1 (by unfold maxLen; omega) hbytes hbase
    have hw := append_where w base t o.type e i z ht hi hz hsize v _ _ hown ⟨b, f, none⟩ m.length c m rfl hnews hm1 (by unfold maxLen; omega) hbytes v' w' hr
    unfold Oper.wp execOp
    simp only [ho, resolve, invoke, builtin, Sem.run_bind, Sem.run_pure, Result.andThen_ok, List.map_toArray, List.map_cons, List.map_nil, hs, hx, hr]
    refine h v' w' ?_ hG hw
    unfold Ow
    rw [List.length_append]
    exact hO
/-- append of one that lies in a block onto a row of the call's own; the row lies where it lay, or behind all. -/
theorem wpList_append_sl2 {P : Program} {w : World} {ops : Array Oper} {rest : List Oper} {o : Oper} {a : Act} {Q : Exit → Act → World → Prop} (hgd : o.guard = none) (s x : Operand) (t : TypeId)
    (ho : o.op = .call { callee := .builtin .append, args := #[s, x], argTypes := #[t, t] })
    (base : Nat) (e : TypeId) (i : TypeInfo) (z : Value) (bytes : Nat) (ht : P.underlying t = some (.slice e)) (hi : P.info? e = some i) (hz : i.zero = some z) (hsize : i.size = 1) (hby : i.bytes = bytes) (hzs : z.cells.size = 1)
    (v : Value) (l : List Value) (hs : a.eval s = v) (hown : Ow e base w v l) (vx : Value) (m : List Value) (hx : a.eval x = vx) (hm : Sl w vx m) (hm0 : m ≠ []) (hm1 : ∀ y ∈ m, y.oneCell' = true)
    (h63 : l.length + m.length ≤ 9223372036854775807) (hbytes : (l.length + m.length) * bytes ≤ 140737488355328) (hbase : base ≤ w.heap.size)
    (h : ∀ v' w', Ow e base w' v' (l ++ m) → w.grownBy w' v.ownBlock → (v'.ownBlock = v.ownBlock ∨ v'.ownBlock = some w.heap.size) → wpList P ops Q rest (a.put o.dst v') w') : wpList P ops Q (o :: rest) a w :=
  wpList_plain hgd fun _ hK => wp_append_sl2 s x t ho base e i z bytes ht hi hz hsize hby hzs v l hs hown vx m hx hm hm0 hm1 h63 hbytes hbase fun v' w' h1 h2 h3 => hK _ _ (h v' w' h1 h2 h3)
/-- The same as a step of a region that draws its order. -/
theorem step_append_sl2 {P : Program} {ops : Array Oper} {w : World} {o : Oper} {a : Act} {K : Act → World → Prop} {Q : Exit → Act → World → Prop} {E : Prop} (hgd : o.guard = none) (s x : Operand) (t : TypeId)
    (ho : o.op = .call { callee := .builtin .append, args := #[s, x], argTypes := #[t, t] })
    (base : Nat) (e : TypeId) (i : TypeInfo) (z : Value) (bytes : Nat) (ht : P.underlying t = some (.slice e)) (hi : P.info? e = some i) (hz : i.zero = some z) (hsize : i.size = 1) (hby : i.bytes = bytes) (hzs : z.cells.size = 1)
    (v : Value) (l : List Value) (hs : a.eval s = v) (hown : Ow e base w v l) (vx : Value) (m : List Value) (hx : a.eval x = vx) (hm : Sl w vx m) (hm0 : m ≠ []) (hm1 : ∀ y ∈ m, y.oneCell' = true)
    (h63 : l.length + m.length ≤ 9223372036854775807) (hbytes : (l.length + m.length) * bytes ≤ 140737488355328) (hbase : base ≤ w.heap.size)
    (h : ∀ v' w', Ow e base w' v' (l ++ m) → w.grownBy w' v.ownBlock → (v'.ownBlock = v.ownBlock ∨ v'.ownBlock = some w.heap.size) → K (a.put o.dst v') w') : if Region.wanted o (yielded ops a.tmps) = true then Oper.wp P o a w K Q else E := by
  rw [if_pos (by simp [Region.wanted, hgd])]
  exact wp_append_sl2 s x t ho base e i z bytes ht hi hz hsize hby hzs v l hs hown vx m hx hm hm0 hm1 h63 hbytes hbase h
end Go.Proofs.Kit
namespace Go.Proofs.Ytmghbejbdkoehaa
open Go.RowKit Go.Proofs.Kit Go.Shelf
theorem sl_argV {w : World} {o : Option Addr} {n c : Nat} {l : List Value} (h : Sl w (.slice o n c) l) : ArgV w o c l := by
  rcases h.2 with ⟨h1, rfl⟩ | ⟨b, off, cap, h1, h2, h3, h4, h5⟩
  · injection h1 with e1 _ e3
    subst e1 e3
    exact .inl ⟨rfl, rfl, rfl⟩
  · injection h1 with e1 _ e3
    subst e1 e3
    exact .inr ⟨_, rfl, fun i hi => by rw [Addr.add_lit]; exact h5 i hi⟩
end Go.Proofs.Ytmghbejbdkoehaa

