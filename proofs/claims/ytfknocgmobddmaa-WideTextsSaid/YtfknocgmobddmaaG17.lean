/- The reference's Right and Read. -/
import Derived.Test.YtfknocgmobddmaaG16
import Derived.Test.YtfknocgmobddmaaR4
import Derived.Test.YtfknocgmobddmaaG9
namespace Go.Proofs.Ytfknocgmobddmaa
open Go.RowKit Go.Proofs.Kit

set_option maxRecDepth 100000 in
set_option maxHeartbeats 4000000 in
theorem rRight_any (s : ByteArray) (w : World) (hs : s.size ≤ 1000000) :
    Calls Try.prog 28 #[.string s] w fun e w' => e = .returned (.bool (isTextB s.data.toList)) ∧ w = w' := by
  go_enter Try.func28, Try.ntmps28
  go_wp2
  go_loop [3, 6] (fun _ i => ∃ k : Nat, i = .int .i64 (k : Int) ∧ k ≤ s.size ∧ Hid ((s.data.toList.take k).all isDig = true)) (fun _ i => s.size - (intOf i).toNat)
  case atStart => exact ⟨0, rfl, Nat.zero_le _, Lib.hid rfl⟩
  case round =>
    obtain ⟨k, rfl, hk, HA⟩ := hrel
    by_cases hlt : k < s.size
    · obtain ⟨c, hc⟩ : ∃ c, c = s[k] := ⟨_, rfl⟩
      have HC := Lib.hid hc
      by_cases hd : isDig c = true
      · have hd' := hd
        unfold isDig at hd'
        simp only [Bool.and_eq_true, decide_eq_true_eq] at hd'
        obtain ⟨d1, d2⟩ := hd'
        have hrec : (s.data.toList.take (k + 1)).all isDig = true := by rw [all_take_byte s k hlt, HA.out, ← HC.out, hd]; rfl
        have HR := Lib.hid hrec
        have g1 : decide ((s[k].toNat : Int) < 48) = false := by rw [← hc]; simp; omega
        have g2 : decide ((57 : Int) < (s[k].toNat : Int)) = false := by rw [← hc]; simp; omega
        clear hrec hd hc d1 d2
        go_wp2
        go_round
        case rel => exact ⟨k + 1, by go_num, by omega, HR⟩
        case measure => simp [intOf]; omega
      · have hd2 : isDig c = false := by simpa using hd
        have hfin : isTextB s.data.toList = false := by
          have : s.data.toList.all isDig = false := all_false_of hlt (by rw [← HC.out]; exact hd2)
          unfold isTextB
          rw [this, Bool.and_false]
        have HF := Lib.hid hfin
        unfold isDig at hd2
        by_cases d1 : c.toNat < 48
        · have g1 : decide ((s[k].toNat : Int) < 48) = true := by rw [← hc]; simp; omega
          clear hfin hd hc d1 hd2
          go_wp2
          go_ret
          rw [HF.out]
          exact ⟨rfl, rfl⟩
        · have d2 : 57 < c.toNat := by
            rcases Nat.lt_or_ge 57 c.toNat with h | h
            · exact h
            · simp at hd2; omega
          have g1 : decide ((s[k].toNat : Int) < 48) = false := by rw [← hc]; simp; omega
          have g2 : decide ((57 : Int) < (s[k].toNat : Int)) = true := by rw [← hc]; simp; omega
          clear hfin hd hc d1 d2 hd2
          go_wp2
          go_ret
          rw [HF.out]
          exact ⟨rfl, rfl⟩
    · have hall : s.data.toList.all isDig = true := by
        have h := HA.out
        rwa [List.take_of_length_le (by simp; omega)] at h
      by_cases h0 : s.toList.isEmpty = true
      · have hfin : isTextB s.data.toList = false := by rw [toList_data] at h0; unfold isTextB; rw [h0]; rfl
        have HF := Lib.hid hfin
        clear hfin hall
        go_wp2
        go_ret
        rw [HF.out]
        exact ⟨rfl, rfl⟩
      · have h0' : s.toList.isEmpty = false := by simpa using h0
        have hsz : s.data.toList.length = s.size := by simp
        have hp : 0 < s.size := by
          rw [toList_data] at h0'
          rcases Nat.eq_zero_or_pos s.size with h | h
          · rw [h] at hsz; rw [List.length_eq_zero_iff] at hsz; rw [hsz] at h0'; simp at h0'
          · exact h
        have hhd : s.data.toList.head? = some s[0] := by
          rw [List.head?_eq_getElem?, List.getElem?_eq_getElem (by simpa using hp)]; rfl
        have hne : s.data.toList.isEmpty = false := by rw [← toList_data]; exact h0'
        by_cases h48 : ((s[0].toNat : Int) != 48) = true
        · have hfin : isTextB s.data.toList = true := by
            unfold isTextB
            rw [hall, hne, hhd]
            have : s[0] ≠ 48 := by intro e; rw [e] at h48; simp at h48
            simp [this]
          have HF := Lib.hid hfin
          clear hfin hall h0 hsz hhd hne
          go_wp2
          go_ret
          rw [HF.out]
          exact ⟨rfl, rfl⟩
        · have h48' : ((s[0].toNat : Int) != 48) = false := by simpa using h48
          have e0 : s[0] = 48 := by
            have : s[0].toNat = 48 := by simp at h48'; omega
            exact UInt8.toNat_inj.1 this
          have hfin : isTextB s.data.toList = decide (s.size = 1) := by
            unfold isTextB
            rw [hall, hne, hhd, e0, hsz]
            by_cases c : s.size = 1
            · simp [c]
            · simp [c]; omega
          have HF := Lib.hid hfin
          clear hfin hall h0 h48
          go_wp2
          go_ret
          rw [HF.out]
          have hv : (s.toList == [48]) = decide (s.size = 1) := by
            rw [toList_data]
            cases hl : s.data.toList with
            | nil => rw [hl] at hne; simp at hne
            | cons x t =>
              rw [hl] at hhd hsz
              simp at hhd
              rw [hhd, e0]
              cases t with
              | nil => simp at hsz; simp [← hsz]
              | cons y t => simp at hsz; simp; omega
          rw [hv]
          exact ⟨rfl, rfl⟩

/-- What Read keeps between its calls. -/
def RH (w0 : World) (v : Value) (l : List Int) (w : World) : Prop := Seg .u64 w v l ∧ Below w0.heap.size w0 w
theorem RH.later {w0 w w' : World} {v : Value} {l : List Int} (h : RH w0 v l w) (hb : Below w.heap.size w w') : RH w0 v l w' := ⟨h.1.later hb, below_later h.2 hb⟩
theorem RH.drew {w0 w : World} {v : Value} {l : List Int} (h : RH w0 v l w) : RH w0 v l w.drew := ⟨h.1.drew, h.2.drew⟩
theorem ten_pow {l : List UInt8} (h : l.all isDig = true) : valOf l < 10 ^ l.length := by
  have key : ∀ (l : List UInt8) (a : Int), 0 ≤ a → l.all isDig = true → l.foldl (fun a c => a * 10 + ((c.toNat : Int) - 48)) a < (a + 1) * 10 ^ l.length := by
    intro l
    induction l with
    | nil => intro a _ _; simp; omega
    | cons c t ih =>
      intro a ha hd
      rw [List.all_cons, Bool.and_eq_true] at hd
      have hc := dig_of hd.1
      have := ih (a * 10 + ((c.toNat : Int) - 48)) (by omega) hd.2
      simp only [List.foldl_cons, List.length_cons, Int.pow_succ]
      refine Int.lt_of_lt_of_le this ?_
      rw [Int.mul_comm (10 ^ t.length) 10, ← Int.mul_assoc]
      exact Int.mul_le_mul_of_nonneg_right (by omega) (Int.le_of_lt (Int.pow_pos (by decide)))
  have := key l 0 (by decide) h
  unfold valOf
  simpa using this
set_option maxRecDepth 100000 in
set_option maxHeartbeats 4000000 in
theorem rRead_any (s : ByteArray) (w : World) (hs : s.size ≤ 60) (hd : s.data.toList.all isDig = true) :
    Calls Try.prog 29 #[.string s] w fun e w' => ∃ (v : Value) (L : List Int), e = .returned v ∧ Dig L ∧ dv L = valOf s.data.toList ∧ Seg .u64 w' v L ∧ Below w.heap.size w w' := by
  have hmix : Try.prog.follows .mixedOrders = true := by kernel_rfl
  have HD := Lib.hid hd
  clear hd
  go_enter Try.func29, Try.ntmps29
  go_wp2
  go_loopg [3, 7] s.size (fun kx s3 s7 wr => ∃ (k : Nat) (L : List Int), s7 = .int .i64 (k : Int) ∧ k ≤ s.size ∧ s.size - k ≤ kx ∧ L.length ≤ 900 ∧ Hid (Dig L ∧ dv L = valOf (s.data.toList.take k)) ∧ Hid (RH w s3 L wr))
  case atStart => exact ⟨0, [], rfl, Nat.zero_le _, by omega, by simp, Lib.hid ⟨fun x hx => by simp at hx, rfl⟩, Lib.hid ⟨Seg.nil _ _, Below.refl _ _⟩⟩
  case round =>
    obtain ⟨k, L, rfl, hk, hkx, hLl, HDV, HRH⟩ := hrel
    obtain ⟨o3, c3, rfl, _, _, _⟩ := HRH.out.1.shape
    by_cases hlt : k < s.size
    · have hdc : isDig s[k] = true := List.all_eq_true.1 HD.out _ (by rw [ByteArray.getElem_eq_getElem_data]; exact List.getElem_mem (by simpa using hlt))
      have hb := dig_of hdc
      have htk : valOf (s.data.toList.take (k + 1)) = valOf (s.data.toList.take k) * 10 + ((s[k].toNat : Int) - 48) := by rw [take_byte s k hlt, valOf_snoc]
      obtain ⟨d, hdd⟩ : ∃ d : Nat, d = s[k].toNat - 48 := ⟨_, rfl⟩
      have hd10 : d < 10 := by omega
      have hval : (s[k].toNat : Int) - 48 = (d : Int) := by omega
      rw [hval] at htk
      have q1 : IntKind.u8.wrap ((s[k].toNat : Int) - 48) = (d : Int) := by rw [hval, IntKind.wrap_u8]; omega
      have q6 : IntKind.u64.wrap (d : Int) = (d : Int) := by rw [IntKind.wrap_u64]; omega
      have HTK := Lib.hid htk
      have hT := HRH.out
      have HTEN := Lib.hid (show (dg 10).length ≤ 1000 by have := dg_len (n := 10) (k := 1) (by decide); omega)
      have HDL := Lib.hid (show (dg d).length ≤ 1000000 by have := dg_len (n := d) (k := 1) (by omega); omega)
      have HLL := Lib.hid hLl
      clear htk hb hdc hdd HRH hval
      go_upto_region 5 with (fail)
      go_region_held3 (fun w' => RH w (.slice o3 L.length c3) L w') (first | exact hT | exact hT.drew)
        (first
          | (go_at_call 44; refine (small_any 10 (by decide) _).mono ?_; rintro e wA ⟨vA, rfl, oA, hbl⟩; first | (have hT := hT.drew.later hbl) | (have hT := hT.later hbl))
          | (go_at_call 18; refine (times_res _ vA L (dg 10) _ hT.1 oA.seg HDV.out.1 (dg_dig 10) (by have := HLL.out; omega) HTEN.out).mono ?_; rintro e wT ⟨vT, LT, rfl, dT, eT, lT, oT, hbl⟩; have hT := hT.later hbl)
          | (go_at_call 44; refine (small_any d (by omega) _).mono ?_; rintro e wC ⟨vC, rfl, oC, hbl⟩; have hT := hT.later hbl; have oT := oT.later hbl)
          | (go_at_call 17; refine (plus_any vT vC LT (dg d) _ oT.seg oC.seg dT (dg_dig d) (by omega) HDL.out).mono ?_; rintro e wP ⟨vP, rfl, oP, hbl⟩; have hT := hT.later hbl))
      all_goals
        have HT := Lib.hid hT
        clear hT
        go_wp2
        go_roundg (s.size - (k + 1))
        case measure => omega
        case rel =>
          have hL := HDV.out
          have htake : (s.data.toList.take (k + 1)).all isDig = true := by
            have := HD.out
            rw [List.all_eq_true] at this ⊢
            exact fun x hx => this x (List.mem_of_mem_take hx)
          have h0 := valOf_pos htake
          have h1 := ten_pow htake
          have h2 : (s.data.toList.take (k + 1)).length ≤ 60 := by simp; omega
          have hv : dv LT + dv (dg d) = valOf (s.data.toList.take (k + 1)) := by rw [eT, dv_dg, dv_dg, hL.2, HTK.out]; rfl
          refine ⟨k + 1, dg (dv LT + dv (dg d)).toNat, by go_num, by omega, Nat.le_refl _, ?_, Lib.hid ⟨dg_dig _, ?_⟩, Lib.hid ⟨oP.seg, HT.out.2⟩⟩
          · have h3 : 10 ^ (s.data.toList.take (k + 1)).length ≤ 10 ^ 60 := Nat.pow_le_pow_right (by decide) h2
            have h1' : valOf (s.data.toList.take (k + 1)) < ((10 ^ (s.data.toList.take (k + 1)).length : Nat) : Int) := by rw [Int.natCast_pow]; exact h1
            have h4 : 10 ^ 60 < 65536 ^ 60 := by decide
            have := dg_len (n := (dv LT + dv (dg d)).toNat) (k := 60) (by rw [hv]; omega)
            omega
          · rw [dv_dg, hv]; omega
    · go_wp2
      go_ret
      have h := HDV.out
      rw [List.take_of_length_le (by simp; omega)] at h
      exact ⟨_, L, rfl, h.1, h.2, HRH.out.1, HRH.out.2⟩
end Go.Proofs.Ytfknocgmobddmaa
