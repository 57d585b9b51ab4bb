/- The reference's words, and at. -/
import Derived.Test.YtoajaacdhkknfaaX25
import Derived.Test.YtoajaacdhkknfaaX14
import Derived.BigQuiet
namespace Go.Proofs.Kit
open Go.RowKit
theorem wordsA_mem (l : List UInt8) : ∀ x ∈ wordsA l, x.length ≤ l.length := by
  induction l using snoc_ind with
  | h0 => simp [wordsA]
  | h1 l c ih =>
    rw [wordsA_snoc, List.length_append]
    intro x hx
    unfold stepA at hx
    split at hx
    · rcases List.mem_append.1 hx with h | h
      · have := ih x h; omega
      · rw [List.mem_singleton.1 h]; simp
    · rcases List.mem_append.1 hx with h | h
      · have := ih x ((List.dropLast_sublist _).subset h); omega
      · rw [List.mem_singleton.1 h, List.length_append]
        have hne := wordsA_ne l
        have := ih _ (List.getLast_mem hne)
        rw [List.getLastD_eq_getLast?, List.getLast?_eq_some_getLast hne]
        simp
        exact this
theorem set_last {α : Type} (R : List α) (x : α) (q : Nat) (h : R.length = q + 1) : R.set q x = R.dropLast ++ [x] := by
  have hne : R ≠ [] := fun e => by rw [e] at h; simp at h
  conv => lhs; rw [← List.dropLast_concat_getLast hne]
  rw [List.set_append_right _ _ (by simp; omega)]
  simp [h]
theorem last_get (R : List (List UInt8)) (q : Nat) (h : R.length = q + 1) : R.getLastD [] = R[q]'(by omega) := by
  have hne : R ≠ [] := fun e => by rw [e] at h; simp at h
  rw [List.getLastD_eq_getLast?, List.getLast?_eq_some_getLast hne, List.getLast_eq_getElem]
  simp [h]
end Go.Proofs.Kit
namespace Go.Proofs.Ytoajaacdhkknfaa
open Go.RowKit Go.Proofs.Kit Go.Shelf
set_option maxRecDepth 100000 in
set_option maxHeartbeats 4000000 in
theorem rbat_any (o : Option Addr) (c k : Nat) (R : List (List UInt8)) (w : World) (hs : Sl w (.slice o R.length c) (R.map sv)) :
    Calls Try.prog 48 #[.slice o R.length c, .int .i64 (k : Int)] w fun e w' => e = .returned (sv (wd R k)) ∧ w' = w := by
  obtain ⟨n, hn⟩ : ∃ n, n = R.length := ⟨_, rfl⟩
  rw [← hn] at hs ⊢
  by_cases hk : k < n
  · have e1 : decide ((k : Int) < (n : Int)) = true := by simp; omega
    obtain ⟨b, f, rfl, hc⟩ : ∃ b f, o = some ⟨b, f, none⟩ ∧ w.cell? ⟨b, f + k, none⟩ = some (sv (wd R k)) := by
      have hkR : k < R.length := by omega
      rcases hs.2 with ⟨_, h2⟩ | ⟨b, off, cap, h1, h2, h3, h4, h5⟩
      · rw [List.map_eq_nil_iff] at h2
        rw [h2] at hkR
        simp at hkR
      · injection h1 with e1 e2 e3
        exact ⟨b, off, e1, by rw [h5 k (by simpa using hkR)]; simp [wd, hkR]⟩
    rw [sv] at hc ⊢
    clear hn hs
    go_enter Try.func48, Try.ntmps48
    go_wp2
    go_ret
    exact ⟨rfl, rfl⟩
  · have e1 : decide ((k : Int) < (n : Int)) = false := by simp; omega
    have h0 : wd R k = [] := by simp [wd, List.getD, List.getElem?_eq_none (show R.length ≤ k by omega)]
    rw [h0, sv]
    clear hn hs h0
    go_enter Try.func48, Try.ntmps48
    go_wp2
    go_ret
    exact ⟨rfl, rfl⟩
set_option maxRecDepth 100000 in
set_option maxHeartbeats 4000000 in
theorem rbwords_any (s : ByteArray) (hs : s.size ≤ 100000) (w : World) :
    Calls Try.prog 47 #[.string s] w fun e w' => ∃ v', e = .returned v' ∧ Ow 9 w.heap.size w' v' ((wordsA (bl s)).map sv) ∧ Below w.heap.size w w' := by
  obtain ⟨i0, hi, hz0, hz1, hz2⟩ := infoS
  go_enter Try.func47, Try.ntmps47
  go_wp2
  go_loopw [3, 8] (fun s3 s8 wr => ∃ i : Nat, i ≤ s.size ∧ s8 = .int .i64 (i : Int) ∧ Hid (Ow 9 w.heap.size wr s3 ((wordsA ((bl s).take i)).map sv)) ∧ Hid (Below w.heap.size w wr)) (fun _ s8 _ => s.size - (intOf s8).toNat)
  case atStart => exact ⟨0, Nat.zero_le _, rfl, Lib.hid (Ow.new (l := [sv []]) (Nat.le_refl _) rfl (by simp)), Lib.hid ((Below.refl _ _).alloc (Nat.le_refl _) _)⟩
  case round =>
    obtain ⟨i, hle, rfl, HO, HB⟩ := hrel
    have hR := wordsA_ne ((bl s).take i)
    have hRL := wordsA_len ((bl s).take i)
    have hRM := wordsA_mem ((bl s).take i)
    obtain ⟨R, hRe⟩ : ∃ R, R = wordsA ((bl s).take i) := ⟨_, rfl⟩
    rw [← hRe] at HO hR hRL hRM
    rw [List.length_take] at hRL hRM
    obtain ⟨ov, cv, ev⟩ := HO.out.shape
    obtain ⟨q, hm⟩ : ∃ q, R.length = q + 1 := ⟨R.length - 1, by have := List.length_pos_iff.2 hR; omega⟩
    rw [List.length_map, hm] at ev
    subst ev
    have HM := Lib.hid hm
    have hq : q ≤ 100000 := by omega
    have hlt' : w.heap.size ≤ wr.heap.size := HB.out.size
    by_cases hlt : i < s.size
    · have hil : i < (bl s).length := by rw [bl_len]; exact hlt
      have HG := Lib.hid (show (bl s)[i] = s[i] by rw [ByteArray.getElem_eq_getElem_data]; rfl)
      have HST := Lib.hid (show wordsA ((bl s).take (i + 1)) = stepA R (bl s)[i] by rw [List.take_succ_eq_append_getElem hil, wordsA_snoc, hRe])
      clear hRe hR hm hRL
      by_cases hc : s[i] = 32
      · have g1 : ((s[i].toNat : Int) == 32) = true := by rw [hc]; rfl
        have HSC := Lib.hid (show stepA R (bl s)[i] = R ++ [[]] by rw [HG.out, hc, stepA, if_pos rfl])
        clear hc HG
        go_wp2_with (at_builtin; refine wpList_append_sl rfl _ _ 23 rfl w.heap.size 9 i0 (.string ⟨#[]⟩) 16 Try.underlying23 hi hz0 hz1 hz2 rfl _ _ rfl (HO.out.alloc _) _ [.string ⟨#[]⟩] rfl ?qa ?qb ?qc ?qd ?qe ?_)
        case qa => exact Sl.of_blk (l := [.string ⟨#[]⟩]) (Blk.new _ _ _) (by simp) (by simp) rfl
        case qb => intro y hy; rw [List.mem_singleton.1 hy]; rfl
        case qc => have := HM.out; simp; omega
        case qd => have := HM.out; simp; omega
        case qe => simp; omega
        intro v3 w3 hO3 hG3
        have HO3 := Lib.hid hO3
        have HB3 := Lib.hid ((HB.out.alloc HB.out.size _).grown hG3 (by simp; omega) (fun g hg => (HO.out.ge g hg).1))
        clear hO3 hG3
        go_wp2
        go_roundw
        case rel =>
          refine ⟨i + 1, by omega, by go_num, Lib.hid ?_, HB3⟩
          have := HO3.out
          rw [HST.out, HSC.out]
          simpa [sv] using this
        case measure => simp [intOf]; omega
      · have g1 : ((s[i].toNat : Int) == 32) = false := by
          have : s[i].toNat ≠ 32 := fun e => hc (UInt8.toNat_inj.1 (by rw [e]; rfl))
          simp; omega
        have HSC := Lib.hid (show stepA R (bl s)[i] = R.dropLast ++ [R.getLastD [] ++ [(bl s)[i]]] by rw [stepA, if_neg (by rw [HG.out]; exact hc)])
        obtain ⟨g, cap, e, hg1, hg2, hgB, hgl, hcell, hfr, _⟩ := HO.out.set (i := q) (by rw [List.length_map, HM.out]; omega) (.string ⟨#[]⟩)
        rw [List.length_map, HM.out] at e hg1
        injection e with e1 e2 e3
        subst e1 e3
        have hq1 : q < R.length := by rw [HM.out]; omega
        rw [List.getElem_map, ← last_get R q HM.out] at hcell
        have hLs : (R.getLastD []).length ≤ 100000 := by
          have := hRM R[q] (List.getElem_mem hq1)
          rw [last_get R q HM.out]
          rw [bl_len] at this
          omega
        obtain ⟨L, hL⟩ : ∃ L, L = R.getLastD [] := ⟨_, rfl⟩
        rw [← hL] at HSC hcell hLs
        rw [sv] at hcell
        have l1 : ((lb L).size : Int) ≤ 100000 := by rw [lb_size]; omega
        obtain ⟨A, hA⟩ : ∃ A, A = lb L := ⟨_, rfl⟩
        rw [← hA] at hcell l1
        have HA := Lib.hid hA
        have l2 : (s.extract i (i + 1)).size = 1 := by rw [ByteArray.size_extract]; omega
        clear hc HG hRM hL hLs hA
        go_upto_region 7 with (fail)
        go_region
        have HB3 := Lib.hid ((HB.out.setCell (p := ⟨g, q, none⟩) hgB (.string (A ++ s.extract i (i + 1)))).drew)
        have HO3 : Hid (Ow 9 w.heap.size (wr.setCell ⟨g, q, none⟩ (.string (A ++ s.extract i (i + 1)))).drew (.slice (some ⟨g, 0, none⟩) (q + 1) cv) ((wordsA ((bl s).take (i + 1))).map sv)) := Lib.hid (by
          obtain ⟨g', cap', e', _, _, _, _, _, _, hset⟩ := HO.out.set (i := q) (by rw [List.length_map, HM.out]; omega) (.string (A ++ s.extract i (i + 1)))
          injection e' with e1 _ _
          injection e1 with e1
          injection e1 with e1
          subst e1
          refine Ow.drew ?_
          have ee : A ++ s.extract i (i + 1) = lb (L ++ [(bl s)[i]]) := bl_inj (by
            have h9 : ((bl s).drop i).take (i + 1 - i) = [(bl s)[i]] := (take_cut (Nat.le_refl i) hil).trans (by simp)
            rw [bl_append, HA.out, ext_lb, bl_lb, bl_lb]
            exact congrArg (L ++ ·) h9)
          rw [HST.out, HSC.out, ← set_last R _ q HM.out, List.map_set]
          rw [ee] at hset ⊢
          exact hset)
        go_wp2
        go_roundw
        case rel => exact ⟨i + 1, by omega, by go_num, HO3, HB3⟩
        case measure => simp [intOf]; omega
    · go_wp2
      go_ret
      refine ⟨_, rfl, ?_, HB.out⟩
      have := HO.out
      rw [hRe, List.take_of_length_le (by rw [bl_len]; omega)] at this
      exact this
end Go.Proofs.Ytoajaacdhkknfaa

