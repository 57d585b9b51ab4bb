/- table.Check: sized, filled, found. -/
import Derived.Test.YtmghbejbdkoehaaJ5
namespace Go.Proofs.Kit
open Go.RowKit
theorem i64_and_nat (a b : Nat) (ha : a < 9223372036854775808) (hb : b < 9223372036854775808) : bits .and .i64 (a : Int) (b : Int) = ((a &&& b : Nat) : Int) := by
  have hx : a &&& b < 2 ^ 63 := Nat.and_lt_two_pow _ (by omega)
  show IntKind.i64.wrap ((BitVec.ofInt 64 (a : Int) &&& BitVec.ofInt 64 (b : Int)).toNat : Int) = _
  rw [BitVec.toNat_and, ofInt_u64 a (by omega), ofInt_u64 b (by omega), IntKind.wrap_i64]
  omega
theorem taken_snoc (S : List Int) (k : Nat) (hk : k < S.length) : taken (S.take (k + 1)) = taken (S.take k) + (if S[k] = 0 then 0 else 1) := by
  unfold taken
  rw [List.take_succ_eq_append_getElem hk, List.countP_append]
  by_cases h : S[k] = 0 <;> simp [h]
theorem taken_take_le (S : List Int) (k : Nat) : taken (S.take k) ≤ k := by
  have := taken_le (S.take k)
  rw [List.length_take] at this
  omega
theorem bT {b : Bool} {P : Prop} (h : b = true ↔ P) (p : P) : b = true := h.2 p
theorem bF {b : Bool} {P : Prop} (h : b = true ↔ P) (p : ¬ P) : b = false := by
  cases b
  · rfl
  · exact (p (h.1 rfl)).elim
theorem bool_of (P : Prop) : ∃ b : Bool, b = true ↔ P := by
  by_cases h : P
  · exact ⟨true, by simp [h]⟩
  · exact ⟨false, by simp [h]⟩
/-- What Check answers. -/
def Ckd (T : List ByteArray) (S : List Int) (e : Int) : Prop := (Good hsh T S ∧ e = 0) ∨ (¬ Good hsh T S ∧ e = 150)
theorem ckd_ex (T : List ByteArray) (S : List Int) : ∃ r, Ckd T S r := by
  by_cases h : Good hsh T S
  · exact ⟨0, .inl ⟨h, rfl⟩⟩
  · exact ⟨150, .inr ⟨h, rfl⟩⟩
end Go.Proofs.Kit
namespace Go.Proofs.Ytmghbejbdkoehaa
open Go.RowKit Go.Proofs.Kit Go.Shelf

set_option maxRecDepth 100000 in
set_option maxHeartbeats 1000000 in
theorem sized_any (vT vS : Value) (T : List ByteArray) (S : List Int) (w : World) (hT : Sl w vT (T.map Value.string)) (hS : Sl w vS (S.map (Value.int .i64))) (hm : S.length ≤ 1000000000) (hTl : T.length ≤ 1000000000) (b : Bool) (hb : b = true ↔ Szd T S) :
    Calls Try.prog 64 #[.agg #[vT, vS]] w fun e w' => e = .returned (.bool b) ∧ Gr w w' := by
  obtain ⟨oT, cT, rfl, hcT, hmT, _⟩ := hT.mshape
  obtain ⟨oS, cS, rfl, hcS, hmS, _⟩ := hS.mshape
  unfold Szd at hb
  obtain ⟨m, hm'⟩ : ∃ m, m = S.length := ⟨_, rfl⟩
  obtain ⟨q, hq'⟩ : ∃ q, q = T.length := ⟨_, rfl⟩
  rw [← hm'] at hm hS hb ⊢
  rw [← hq'] at hTl hT hb ⊢
  clear hm' hq' hT hS hcT hcS
  have HB := Lib.hid hb
  clear hb
  by_cases h1 : q ≤ 1024
  · by_cases h2 : 8 ≤ m
    · have r1 : (m : Int) - 1 = ((m - 1 : Nat) : Int) := by omega
      have r2 := i64_and_nat m (m - 1) (by omega) (by omega)
      have h2' : decide ((8 : Int) ≤ (m : Int)) = true := by simp; omega
      obtain ⟨k, hk⟩ : ∃ k, k = m &&& (m - 1) := ⟨_, rfl⟩
      rw [← hk] at r2 HB
      clear hk
      by_cases h3 : k = 0
      · have h3' : ((k : Int) == 0) = true := by simpa using h3
        by_cases h4 : 2 * q ≤ m
        · have h4' : decide (2 * (q : Int) ≤ (m : Int)) = true := by simp; omega
          obtain rfl := bT HB.out ⟨h1, h2, h3, h4⟩
          subst h3
          go_enter Try.func64, Try.ntmps64
          go_wp2
          go_ret
          exact ⟨rfl, Gr.alloc _ _⟩
        · have h4' : decide (2 * (q : Int) ≤ (m : Int)) = false := by simp; omega
          obtain rfl := bF HB.out (fun e => h4 e.2.2.2)
          subst h3
          go_enter Try.func64, Try.ntmps64
          go_wp2
          go_ret
          exact ⟨rfl, Gr.alloc _ _⟩
      · have h3' : ((k : Int) == 0) = false := by simpa using h3
        obtain rfl := bF HB.out (fun e => h3 e.2.2.1)
        go_enter Try.func64, Try.ntmps64
        go_wp2
        go_ret
        exact ⟨rfl, Gr.alloc _ _⟩
    · have h2' : decide ((8 : Int) ≤ (m : Int)) = false := by simp; omega
      obtain rfl := bF HB.out (fun e => h2 e.2.1)
      go_enter Try.func64, Try.ntmps64
      go_wp2
      go_ret
      exact ⟨rfl, Gr.alloc _ _⟩
  · have h1' : decide ((q : Int) ≤ 1024) = false := by simp; omega
    obtain rfl := bF HB.out (fun e => h1 e.1)
    go_enter Try.func64, Try.ntmps64
    go_wp2
    go_ret
    exact ⟨rfl, Gr.alloc _ _⟩

set_option maxRecDepth 100000 in
set_option maxHeartbeats 1000000 in
theorem filled_any (vT vS : Value) (T : List ByteArray) (S : List Int) (w : World) (hT : Sl w vT (T.map Value.string)) (hS : Sl w vS (S.map (Value.int .i64))) (hm : S.length ≤ 1000000000) (b : Bool) (hb : b = true ↔ Fld T S) :
    Calls Try.prog 65 #[.agg #[vT, vS]] w fun e w' => e = .returned (.bool b) ∧ Gr w w' := by
  obtain ⟨oT, cT, rfl, hcT, hmT, _⟩ := hT.mshape
  obtain ⟨oS, cS, rfl, hcS, hmS, aS⟩ := hS.mshape
  unfold Fld at hb
  obtain ⟨m, hm'⟩ : ∃ m, m = S.length := ⟨_, rfl⟩
  obtain ⟨q, hq'⟩ : ∃ q, q = T.length := ⟨_, rfl⟩
  rw [← hm'] at hm hS ⊢
  rw [← hq'] at hT hb ⊢
  have HM := Lib.hid hm'
  have HB := Lib.hid hb
  have AS := Lib.hid aS
  clear hm' hq' hT hS hcT hcS aS hb
  go_enter Try.func65, Try.ntmps65
  go_wp2
  obtain ⟨W, hW⟩ : ∃ W, W = w.alloc (.cells #[.slice oT q cT, .slice oS m cS] 113) := ⟨_, rfl⟩
  have hG : Gr w W := by rw [hW]; exact Gr.alloc _ _
  have bx : Blk W w.heap.size #[.slice oT q cT, .slice oS m cS] 113 := by rw [hW]; exact Blk.new _ _ _
  rw [← hW]
  clear hW
  have c0 := bx.cell 0
  have l0 := bx.lt
  simp only [List.getElem?_toArray, List.getElem?_cons_zero] at c0
  clear bx
  go_loop [3, 5, 10] (fun tk _ i => ∃ k : Nat, k ≤ m ∧ i = .int .i64 k ∧ tk = .int .i64 (taken (S.take k) : Nat) ∧ Hid (∀ x ∈ S.take k, 0 ≤ x ∧ x ≤ (q : Int))) (fun _ _ i => m - (intOf i).toNat)
  case atStart => exact ⟨0, Nat.zero_le _, rfl, rfl, Lib.hid (by simp)⟩
  case round =>
    obtain ⟨k, hk, rfl, rfl, hin⟩ := hrel
    by_cases hlt : k < m
    · have hkl : k < S.length := by have := HM.out; omega
      obtain ⟨bS, fS, rfl, hbS, hcS⟩ := AS.out.resolve_left (fun e => by rw [e] at hkl; simp at hkl)
      have d1 := (hG.below.cell (p := ⟨bS, fS + k, none⟩) hbS).trans (hcS k hkl)
      have htk := taken_take_le S k
      have hts := taken_snoc S k hkl
      have htake : S.take (k + 1) = S.take k ++ [S[k]] := List.take_succ_eq_append_getElem hkl
      obtain ⟨y, hy⟩ : ∃ y, y = S[k] := ⟨_, rfl⟩
      have hmem : y ∈ S := by rw [hy]; exact List.getElem_mem hkl
      rw [← hy] at d1 hts htake
      obtain ⟨tk, htk'⟩ : ∃ tk, tk = taken (S.take k) := ⟨_, rfl⟩
      rw [← htk'] at hts htk ⊢
      have HMEM := Lib.hid hmem
      have HTS := Lib.hid hts
      have HTK := Lib.hid htake
      clear hy hcS htk' hmem hts htake
      by_cases h1 : y < 0
      · have h1' : decide (y < 0) = true := by simpa using h1
        obtain rfl := bF HB.out (fun e => by have := e.1 _ HMEM.out; omega)
        go_wp2
        go_ret
        exact ⟨rfl, hG⟩
      · have h1' : decide (y < 0) = false := by simpa using h1
        by_cases h2 : y ≤ (q : Int)
        · have h2' : decide ((q : Int) < y) = false := by simpa using h2
          have hin' : ∀ x ∈ S.take (k + 1), 0 ≤ x ∧ x ≤ (q : Int) := by
            rw [HTK.out]
            intro x hx
            rcases List.mem_append.1 hx with hx | hx
            · exact hin.out x hx
            · obtain rfl : x = y := by simpa using hx
              omega
          have HIN := Lib.hid hin'
          clear hin'
          by_cases h3 : y = 0
          · have h3' : decide (0 < y) = false := by simp; omega
            rw [if_pos h3] at HTS
            clear h1 h2 h3
            go_wp2
            go_round
            case rel => exact ⟨k + 1, by omega, by go_num, by rw [HTS.out]; rfl, HIN⟩
            case measure => simp [intOf]; omega
          · have h3' : decide (0 < y) = true := by simp; omega
            rw [if_neg h3] at HTS
            clear h1 h2 h3
            go_wp2
            go_round
            case rel => exact ⟨k + 1, by omega, by go_num, by rw [HTS.out]; rfl, HIN⟩
            case measure => simp [intOf]; omega
        · have h2' : decide ((q : Int) < y) = true := by simpa using h2
          obtain rfl := bF HB.out (fun e => h2 (e.1 _ HMEM.out).2)
          go_wp2
          go_ret
          exact ⟨rfl, hG⟩
    · have hS : S.take k = S := List.take_of_length_le (by have := HM.out; omega)
      rw [hS] at hin ⊢
      obtain ⟨tk, htk'⟩ : ∃ tk, tk = taken S := ⟨_, rfl⟩
      rw [← htk'] at HB ⊢
      clear htk'
      by_cases h1 : tk = q
      · have h1' : ((tk : Int) == (q : Int)) = true := by simp; omega
        obtain rfl := bT HB.out ⟨hin.out, h1⟩
        clear h1
        go_wp2
        go_ret
        exact ⟨rfl, hG⟩
      · have h1' : ((tk : Int) == (q : Int)) = false := by simp; omega
        obtain rfl := bF HB.out (fun e => h1 e.2)
        clear h1
        go_wp2
        go_ret
        exact ⟨rfl, hG⟩

set_option maxRecDepth 100000 in
set_option maxHeartbeats 1000000 in
theorem found_any (vT vS : Value) (T : List ByteArray) (S : List Int) (w : World) (hT : Sl w vT (T.map Value.string)) (hS : Sl w vS (S.map (Value.int .i64))) (hm : S.length ≤ 1000000000) (hTl : T.length ≤ 1000000000) (hsz : ∀ s ∈ T, s.size ≤ 9223372036854775807)
    (hz : Szd T S) (hf : Fld T S) (b : Bool) (hb : b = true ↔ Fnd hsh T S) :
    Calls Try.prog 66 #[.agg #[vT, vS]] w fun e w' => e = .returned (.bool b) ∧ Gr w w' := by
  have hmix := mixed
  have HT := Lib.hid hT
  have HS := Lib.hid hS
  have HF := Lib.hid (hz.free hf)
  have HN := Lib.hid hf.1
  have HSZ := Lib.hid hsz
  obtain ⟨oT, cT, rfl, hcT, hmT, aT⟩ := hT.mshape
  obtain ⟨oS, cS, rfl, hcS, hmS, aS⟩ := hS.mshape
  obtain ⟨m, hm'⟩ : ∃ m, m = S.length := ⟨_, rfl⟩
  obtain ⟨q, hq'⟩ : ∃ q, q = T.length := ⟨_, rfl⟩
  rw [← hm'] at hm HS ⊢
  rw [← hq'] at hTl HT HN ⊢
  have HM := Lib.hid hm'
  have HQ := Lib.hid hq'
  have HB := Lib.hid hb
  have AS := Lib.hid aS
  have AT := Lib.hid aT
  clear hm' hq' hT hS hcT hcS aS aT hb hz hf hsz
  go_enter Try.func66, Try.ntmps66
  go_wp2
  obtain ⟨W, hW⟩ : ∃ W, W = w.alloc (.cells #[.slice oT q cT, .slice oS m cS] 113) := ⟨_, rfl⟩
  have hG : Gr w W := by rw [hW]; exact Gr.alloc _ _
  have bx : Blk W w.heap.size #[.slice oT q cT, .slice oS m cS] 113 := by rw [hW]; exact Blk.new _ _ _
  rw [← hW]
  clear hW
  have HBX := Lib.hid bx
  clear bx
  go_loopw [3, 4, 9] (fun _ _ i wr => ∃ k : Nat, k ≤ q ∧ i = .int .i64 k ∧ Gr W wr ∧ Hid (∀ n (h : n < T.length), n < k → ∃ p, seatO hsh T S T[n] = some p ∧ at0 S p = (n : Int) + 1)) (fun _ _ i _ => q - (intOf i).toNat)
  case atStart => exact ⟨0, Nat.zero_le _, rfl, Gr.refl _, Lib.hid (fun n _ h => by omega)⟩
  case round =>
    obtain ⟨k, hk, rfl, hGr, hin⟩ := hrel
    have bx := HBX.out.gr hGr
    by_cases hlt : k < q
    · have hkl : k < T.length := by have := HQ.out; omega
      have hGw := hG.trans hGr
      obtain ⟨bT', fT, rfl, hbT, hcT⟩ := AT.out.resolve_left (fun e => by rw [e] at hkl; simp at hkl)
      have d1 := (hGw.below.cell (p := ⟨bT', fT + k, none⟩) hbT).trans (hcT k hkl)
      obtain ⟨p, hp⟩ := seatO_some (hs := hsh) (T := T) (s := T[k]) HF.out
      have hpl := seatO_lt hp
      obtain ⟨bS, fS, rfl, hbS, hcS⟩ := AS.out.resolve_left (fun e => by rw [e] at hpl; simp at hpl)
      have d2 := cell_grown (a := ⟨bS, fS + p, none⟩) (Nat.lt_of_lt_of_le hbS hGw.below.size) ((hGw.below.cell (p := ⟨bS, fS + p, none⟩) hbS).trans (hcS p hpl))
      have hT1 := HT.out.gr hGw
      have hS1 := HS.out.gr hGw
      have hseat := fun n os => seat_any _ _ T S T[k] (HSZ.out _ (List.getElem_mem hkl)) (Sort.grow (wr.drewN n) os) (hT1.gr (Gr.grown wr n os)) (hS1.gr (Gr.grown wr n os)) (by have := HM.out; omega) (by have := HQ.out; omega) (by rw [← HQ.out]; exact HN.out) p hp
      have e0 : ∀ n os, (Sort.grow (wr.drewN n) os).cell? ⟨w.heap.size, 0, none⟩ = some (.slice (some ⟨bT', fT, none⟩) q cT) := cell_grown bx.lt (bx.cell 0)
      have e1 : ∀ n os, (Sort.grow (wr.drewN n) os).cell? ⟨w.heap.size, 1, none⟩ = some (.slice (some ⟨bS, fS, none⟩) m cS) := cell_grown bx.lt (bx.cell 1)
      have hy' : at0 S p = S[p] := at0_lt hpl
      obtain ⟨y, hy⟩ : ∃ y, y = S[p] := ⟨_, rfl⟩
      rw [← hy] at d2 hy'
      obtain ⟨s, hs⟩ : ∃ s, s = T[k] := ⟨_, rfl⟩
      rw [← hs] at d1 hseat hp
      have hpm : p < m := by have := HM.out; omega
      have HY := Lib.hid hy'
      have HP := Lib.hid hp
      have HSS := Lib.hid hs
      have HSEAT := Lib.hid hseat
      clear hy hs hy' hp hcT hcS hT1 hS1 hseat bx hpl hbS hbT
      have q1 : (p : Int) < (m : Int) := by omega
      have q2 : IntKind.i64.wrap ((k : Int) + 1) = (k : Int) + 1 := by rw [IntKind.wrap_i64]; omega
      by_cases h1 : y = (k : Int) + 1
      · have h1' : (y != (k : Int) + 1) = false := by simpa using h1
        have H1 := Lib.hid h1
        clear h1
        go_wp2
        go_quiet_grown ((go_at_call 79; refine Calls.gr_of (HSEAT.out _ _)))
        go_wp2
        go_roundw
        case rel =>
          refine ⟨k + 1, by omega, by go_num, hGr.trans (Gr.grown _ _ _), Lib.hid fun n hn hnk => ?_⟩
          by_cases c : n < k
          · exact hin.out n hn c
          · obtain rfl : n = k := by omega
            exact ⟨p, by rw [← HSS.out]; exact HP.out, by rw [HY.out]; exact H1.out⟩
        case measure => simp [intOf]; omega
      · have h1' : (y != (k : Int) + 1) = true := by simpa using h1
        have hno : ¬ Fnd hsh T S := fun e => by
          obtain ⟨p', e1, e2⟩ := e k hkl
          rw [← HSS.out, HP.out] at e1
          obtain rfl := Option.some.inj e1
          rw [HY.out] at e2
          exact h1 e2
        obtain rfl := bF HB.out hno
        clear h1 hno
        go_wp2
        go_quiet_grown ((go_at_call 79; refine Calls.gr_of (HSEAT.out _ _)))
        go_wp2
        go_ret
        exact ⟨rfl, hGw.trans (Gr.grown _ _ _)⟩
    · have hyes : Fnd hsh T S := fun n hn => hin.out n hn (by have := HQ.out; omega)
      obtain rfl := bT HB.out hyes
      clear hyes
      go_wp2
      go_ret
      exact ⟨rfl, hG.trans hGr⟩
set_option maxRecDepth 100000 in
set_option maxHeartbeats 1000000 in
theorem check_any (vT vS : Value) (T : List ByteArray) (S : List Int) (w : World) (hT : Sl w vT (T.map Value.string)) (hS : Sl w vS (S.map (Value.int .i64))) (hm : S.length ≤ 1000000000) (hTl : T.length ≤ 1000000000) (hsz : ∀ s ∈ T, s.size ≤ 9223372036854775807)
    (r : Int) (hr : Ckd T S r) :
    Calls Try.prog 41 #[.agg #[vT, vS]] w fun e w' => e = .returned (.int .i64 r) ∧ Gr w w' := by
  obtain ⟨b1, h1⟩ := bool_of (Szd T S)
  obtain ⟨b2, h2⟩ := bool_of (Fld T S)
  obtain ⟨b3, h3⟩ := bool_of (Fnd hsh T S)
  have HT := Lib.hid hT
  have HS := Lib.hid hS
  obtain ⟨oT, cT, rfl, _, _, _⟩ := hT.mshape
  obtain ⟨oS, cS, rfl, _, _, _⟩ := hS.mshape
  have H1 := Lib.hid h1
  have H2 := Lib.hid h2
  have H3 := Lib.hid h3
  have HR := Lib.hid hr
  have HZ := Lib.hid hsz
  clear hT hS h1 h2 h3 hr hsz
  have k1 := fun W (g : Gr w W) => sized_any _ _ T S W (HT.out.gr g) (HS.out.gr g) hm hTl b1 H1.out
  have k2 := fun W (g : Gr w W) => filled_any _ _ T S W (HT.out.gr g) (HS.out.gr g) hm b2 H2.out
  have K1 := Lib.hid k1
  have K2 := Lib.hid k2
  clear k1 k2
  go_enter Try.func41, Try.ntmps41
  go_wp2_with fail
  obtain ⟨W1, hW⟩ : ∃ W1, W1 = (w.alloc (.cells #[.slice oT T.length cT, .slice oS S.length cS] 25)).alloc (.cells #[.slice oT T.length cT, .slice oS S.length cS] 113) := ⟨_, rfl⟩
  have g1 : Gr w W1 := by rw [hW]; exact (Gr.alloc _ _).trans (Gr.alloc _ _)
  have bx : Blk W1 (w.heap.size + 1) #[.slice oT T.length cT, .slice oS S.length cS] 113 := by rw [hW]; have := Blk.new (w.alloc (.cells #[.slice oT T.length cT, .slice oS S.length cS] 25)) #[.slice oT T.length cT, .slice oS S.length cS] 113; simpa using this
  rw [← hW]
  clear hW
  have BX := Lib.hid bx
  clear bx
  refine (K1.out W1 g1).mono ?_
  rintro e W2 ⟨rfl, g2⟩
  have BX2 := Lib.hid (BX.out.gr g2)
  have g02 := g1.trans g2
  obtain ⟨c0, c1⟩ : W2.cell? ⟨w.heap.size + 1, 0, none⟩ = some (.slice oT T.length cT) ∧ W2.cell? ⟨w.heap.size + 1, 1, none⟩ = some (.slice oS S.length cS) := ⟨BX2.out.cell 0, BX2.out.cell 1⟩
  cases b1
  · obtain rfl : r = 150 := by
      rcases HR.out with ⟨h, _⟩ | ⟨_, h⟩
      · have := H1.out.2 h.sz; simp at this
      · exact h
    go_wp2
    go_ret
    exact ⟨rfl, g02⟩
  · go_wp2_with fail
    refine (K2.out W2 g02).mono ?_
    rintro e W3 ⟨rfl, g3⟩
    have BX3 := Lib.hid (BX2.out.gr g3)
    have g03 := g02.trans g3
    obtain ⟨c0, c1⟩ : W3.cell? ⟨w.heap.size + 1, 0, none⟩ = some (.slice oT T.length cT) ∧ W3.cell? ⟨w.heap.size + 1, 1, none⟩ = some (.slice oS S.length cS) := ⟨BX3.out.cell 0, BX3.out.cell 1⟩
    cases b2
    · obtain rfl : r = 150 := by
        rcases HR.out with ⟨h, _⟩ | ⟨_, h⟩
        · have := H2.out.2 h.fl; simp at this
        · exact h
      go_wp2
      go_ret
      exact ⟨rfl, g03⟩
    · go_wp2_with fail
      refine (found_any _ _ T S W3 (HT.out.gr g03) (HS.out.gr g03) hm hTl HZ.out (by have := H1.out; simpa using this) (by have := H2.out; simpa using this) b3 H3.out).mono ?_
      rintro e W4 ⟨rfl, g4⟩
      have g04 := g03.trans g4
      cases b3
      · obtain rfl : r = 150 := by
          rcases HR.out with ⟨h, _⟩ | ⟨_, h⟩
          · have := H3.out.2 h.fo; simp at this
          · exact h
        go_wp2
        go_ret
        exact ⟨rfl, g04⟩
      · obtain rfl : r = 0 := by
          rcases HR.out with ⟨_, h⟩ | ⟨h, _⟩
          · exact h
          · exact (h ⟨by have := H1.out; simpa using this, by have := H2.out; simpa using this, by have := H3.out; simpa using this⟩).elim
        go_wp2
        go_ret
        exact ⟨rfl, g04⟩
end Go.Proofs.Ytmghbejbdkoehaa

