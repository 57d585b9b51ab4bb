/- The reference's Read. -/
import Derived.Test.YtoajaacdhkknfaaX27
import Derived.Test.YtoajaacdhkknfaaX28
import Derived.Test.YtoajaacdhkknfaaX19
namespace Go.Proofs.Kit
open Go.RowKit
theorem lines_mem : ∀ l : List UInt8, ∀ p ∈ linesL l, (10 : UInt8) ∉ p.1 ∧ (p.2 = false → p.1 ≠ [])
  | [], p, h => by simp [linesL] at h
  | c :: t, p, h => by
    have ih := lines_mem t
    rw [linesL] at h
    split at h
    · rcases List.mem_cons.1 h with rfl | h
      · simp
      · exact ih p h
    · rename_i hc
      split at h
      · rw [List.mem_singleton.1 h]
        simp only [List.mem_singleton]
        exact ⟨fun e => hc e.symm, by simp⟩
      · rename_i a e r hr
        rcases List.mem_cons.1 h with rfl | h
        · have := ih (a, e) (by rw [hr]; simp)
          refine ⟨?_, by simp⟩
          simp only [List.mem_cons, not_or]
          exact ⟨fun e => hc e.symm, this.1⟩
        · exact ih p (by rw [hr]; simp [h])
theorem glue_mem : ∀ (ls : List (List UInt8 × Bool)), ∀ p ∈ ls, (withF p).length ≤ (glue ls).length
  | [], p, h => by simp at h
  | q :: r, p, h => by
    rw [glue, List.length_append]
    rcases List.mem_cons.1 h with rfl | h
    · omega
    · have := glue_mem r p h; omega
theorem withF_len {p : List UInt8 × Bool} (h : p.2 = false → p.1 ≠ []) : 1 ≤ (withF p).length := by
  unfold withF
  rcases hp : p.2
  · have := List.length_pos_iff.2 (h hp); simp; omega
  · simp
end Go.Proofs.Kit
namespace Go.Proofs.Ytoajaacdhkknfaa
open Go.RowKit Go.Proofs.Kit Go.Shelf
set_option maxRecDepth 100000 in
set_option maxHeartbeats 4000000 in
theorem rbRead_any (s : ByteArray) (hs : s.size ≤ 5000) (w : World) :
    Calls Try.prog 22 #[.string s] w fun e w' => ∃ v', e = .returned (.tuple #[v', .int .i64 (readS (bl s)).2.1, .int .i64 (readS (bl s)).2.2]) ∧ OwnE chgE 27 w.heap.size w' v' (readS (bl s)).1 ∧ Below w.heap.size w w' := by
  obtain ⟨i0, hi, hz0, hz1, hz2⟩ := infoC
  have HLN := Lib.hid (rbLines_any s (by omega) w)
  have HGL := Lib.hid (show ∀ p ∈ linesL (bl s), (withF p).length ≤ 5000 from fun p hp => by
    have := glue_mem _ p hp
    rw [glue_lines, bl_len] at this
    omega)
  have HMEM := Lib.hid (lines_mem (bl s))
  have HRS := Lib.hid (show readS (bl s) = readR [] (linesL (bl s)) from rfl)
  obtain ⟨RS, hRS⟩ : ∃ r, r = readS (bl s) := ⟨_, rfl⟩
  rw [← hRS] at HRS ⊢
  clear hRS
  go_enter Try.func22, Try.ntmps22
  go_wp2_with fail
  refine HLN.out.mono ?_
  rintro e w1 ⟨v, rfl, o1, b1⟩
  obtain ⟨LL, hLL⟩ : ∃ l, l = linesL (bl s) := ⟨_, rfl⟩
  rw [← hLL] at HGL HMEM HRS o1
  obtain ⟨o, c, ev⟩ := o1.shape
  have hs1 := o1.sl
  obtain ⟨n, hn⟩ : ∃ n, n = LL.length := ⟨_, rfl⟩
  rw [List.length_map, ← hn] at ev
  subst ev
  have HS1 := Lib.hid hs1
  have HB1 := Lib.hid b1
  have HNn := Lib.hid hn
  have hn9 : n ≤ 9223372036854775807 := by rw [hn]; have := o1.len; rw [List.length_map] at this; exact this
  clear o1 b1 hs1 hn hLL HLN
  go_wp2
  go_loopw [5, 13] (fun s5 s13 wr => ∃ (k : Nat) (acc : List Chg), k ≤ n ∧ s13 = .int .i64 (k : Int) ∧ acc.length = k ∧ k ≤ 64 ∧ Hid (GoesR (LL.take k) acc) ∧ Hid (OwnE chgE 27 w1.heap.size wr s5 acc) ∧ Hid (Below w1.heap.size w1 wr)) (fun _ s13 _ => n - (intOf s13).toNat)
  case atStart => exact ⟨0, [], Nat.zero_le _, rfl, rfl, by omega, Lib.hid (fun _ => rfl), Lib.hid (OwnE.nil _ _ _ _), Lib.hid (Below.refl _ _)⟩
  case round =>
    obtain ⟨k, acc, hk, rfl, hacc, hk64, HG, HO, HB⟩ := hrel
    obtain ⟨ov, cv, ev⟩ := HO.out.shape
    rw [hacc] at ev
    subst ev
    have HA := Lib.hid hacc
    clear hacc
    have hlt1 : w1.heap.size ≤ wr.heap.size := HB.out.size
    by_cases hlt : k < n
    · have e1 : decide ((k : Int) < (n : Int)) = true := by simp; omega
      have hkL : k < LL.length := by rw [← HNn.out]; exact hlt
      obtain ⟨oB, fB, rfl, hcell, hbl⟩ : ∃ b f, o = some ⟨b, f, none⟩ ∧ wr.cell? ⟨b, f + k, none⟩ = some (.string (lb (withF LL[k]))) ∧ b < wr.heap.size := by
        rcases (HS1.out.later HB.out).2 with ⟨_, h2⟩ | ⟨b, off, cap, h1, h2, h3, h4, h5⟩
        · rw [List.map_eq_nil_iff] at h2
          rw [h2] at hkL
          simp at hkL
        · injection h1 with q1 q2 q3
          exact ⟨b, off, q1, by have := h5 k (by simpa using hkL); rw [this]; simp [lv, sv], h4⟩
      have hmem : LL[k] ∈ LL := List.getElem_mem hkL
      have hp := HMEM.out _ hmem
      have hgl := HGL.out _ hmem
      have hdrop : LL = LL.take k ++ LL[k] :: LL.drop (k + 1) := by rw [← List.drop_eq_getElem_cons hkL, List.take_append_drop]
      have htk : LL.take (k + 1) = LL.take k ++ [LL[k]] := List.take_succ_eq_append_getElem hkL
      obtain ⟨p, hpp⟩ : ∃ p, p = LL[k] := ⟨_, rfl⟩
      rw [← hpp] at hcell hp hgl hdrop htk
      have HRP := Lib.hid (show RS = readR acc (p :: LL.drop (k + 1)) by
        have h9 := HG.out (p :: LL.drop (k + 1))
        rw [← hdrop] at h9
        rw [HRS.out]
        exact h9)
      have HTK := Lib.hid htk
      have HP := Lib.hid hp
      clear hmem hdrop htk hpp
      by_cases h64 : k = 64
      · have e64 : ((k : Int) == 64) = true := by simp; omega
        obtain rfl : RS = ([], 0, 3) := by rw [HRP.out, readR_full (by rw [HA.out, h64])]
        clear h64
        go_wp2_with fail
        exact bodyPost_ret (v := .tuple #[.slice none 0 0, .int .i64 0, .int .i64 3]) (by simp [results, Try.results22]) rfl ⟨_, rfl, OwnE.nil _ _ _ _, below_later HB1.out HB.out⟩
      · have e64 : ((k : Int) == 64) = false := by simp; omega
        obtain ⟨q, hq⟩ : ∃ q, (withF p).length = q + 1 := ⟨(withF p).length - 1, by have := withF_len hp.2; omega⟩
        obtain ⟨T, hT⟩ : ∃ T, T = lb (withF p) := ⟨_, rfl⟩
        have hTs : T.size = q + 1 := by rw [hT, lb_size, hq]
        rw [← hT] at hcell
        have HT := Lib.hid hT
        have hq5 : q ≤ 5000 := by omega
        have hqT : q < T.size := by omega
        have HOF := Lib.hid (fun W => rbOf_any (T.extract 0 q) (by rw [ByteArray.size_extract]; omega) W)
        obtain ⟨so, hso⟩ : ∃ so, so = saysO (bl (T.extract 0 q)) := ⟨_, rfl⟩
        rw [← hso] at HOF
        have HSO := Lib.hid hso
        have HTq := Lib.hid hq
        clear hT hso hp hgl hq
        obtain ⟨cc0, hcc⟩ : ∃ c, c = so.getD Chg.zero := ⟨_, rfl⟩
        rw [← hcc] at HOF
        have HCC := Lib.hid hcc
        clear hcc
        obtain ⟨ck, key, nm, vl, tt⟩ := cc0
        go_wp2_with fail
        refine (HOF.out _).mono ?_
        rintro e w3 ⟨rfl, b3⟩
        have HB3 := Lib.hid (below_later HB.out b3)
        have HO3 := Lib.hid (HO.out.later b3)
        have hlt3 : w1.heap.size ≤ w3.heap.size := HB3.out.size
        have gA := Gr.alloc w3 (.cells #[.int .i64 ck, .string key, .string nm, .string vl, .string tt] 27)
        have HB4 := Lib.hid (below_later HB3.out gA.below)
        have HBT := Lib.hid (show (withF p)[q]'(by rw [HTq.out]; omega) = T[q] by
          rw [ByteArray.getElem_eq_getElem_data]
          have := HT.out
          subst this
          simp)
        clear b3 gA hcell
        obtain ⟨pl, pe⟩ := p
        rcases so with _ | c0
        · obtain rfl : RS = ([], (acc.length : Int) + 1, 191) := by
            rw [HRP.out]
            cases pe
            · exact readR_no (by rw [HA.out]; exact h64) (.inr rfl)
            · refine readR_no (by rw [HA.out]; exact h64) (.inl ?_)
              have h1 : (withF (pl, true)).take q = pl := by
                have := HTq.out
                simp [withF] at this
                rw [withF]
                simp [this]
              have := HSO.out
              rw [HT.out, ext_lb, bl_lb, List.drop_zero, Nat.sub_zero, bl_lb, h1] at this
              exact this.symm
          go_wp2_with fail
          exact bodyPost_ret (v := .tuple #[.slice none 0 0, .int .i64 ((k : Int) + 1), .int .i64 191]) (by simp [results, Try.results22]) rfl ⟨_, by rw [HA.out], OwnE.nil _ _ _ _, below_later HB1.out HB4.out⟩
        · cases pe
          · obtain rfl : RS = ([], (acc.length : Int) + 1, 191) := by
              rw [HRP.out]
              exact readR_no (by rw [HA.out]; exact h64) (.inr rfl)
            have hb : T[q].toNat ≠ 10 := by
              rw [← HBT.out]
              intro e
              have h10 : (withF (pl, false))[q]'(by rw [HTq.out]; omega) = 10 := UInt8.toNat_inj.1 (by rw [e]; rfl)
              have hm : (10 : UInt8) ∈ withF (pl, false) := by rw [← h10]; exact List.getElem_mem _
              simp [withF] at hm
              exact HP.out.1 hm
            have g1 : ((T[q].toNat : Int) == 10) = false := by simp; omega
            have g2 : ((T[q].toNat : Int) != 10) = true := by simp; omega
            clear hb
            go_wp2_with fail
            exact bodyPost_ret (v := .tuple #[.slice none 0 0, .int .i64 ((k : Int) + 1), .int .i64 191]) (by simp [results, Try.results22]) rfl ⟨_, by rw [HA.out], OwnE.nil _ _ _ _, below_later HB1.out HB4.out⟩
          · have hpl : pl.length = q := by have := HTq.out; simp [withF] at this; exact this
            have hb : T[q].toNat = 10 := by
              rw [← HBT.out]
              simp [withF, ← hpl]
            have g1 : ((T[q].toNat : Int) == 10) = true := by rw [hb]; rfl
            have g2 : ((T[q].toNat : Int) != 10) = false := by rw [hb]; rfl
            have hsay : saysO pl = some c0 := by
              have h1 : (withF (pl, true)).take q = pl := by rw [withF]; simp [← hpl]
              have := HSO.out
              rw [HT.out, ext_lb, bl_lb, List.drop_zero, Nat.sub_zero, bl_lb, h1] at this
              exact this.symm
            have HCE := Lib.hid (show (⟨ck, key, nm, vl, tt⟩ : Chg) = c0 from HCC.out)
            have HRR := Lib.hid (show ∀ rest, readR [] (LL.take (k + 1) ++ rest) = readR (acc ++ [⟨ck, key, nm, vl, tt⟩]) rest by
              intro rest
              rw [HTK.out, List.append_assoc, HG.out, HCE.out]
              exact readR_yes (by rw [HA.out]; exact h64) hsay)
            clear hb hpl hsay
            go_wp2_with (at_builtin; refine wpList_append_segE (E := chgE) rfl _ _ 22 rfl w1.heap.size 27 i0 (CV Chg.zero) 72 Try.underlying22 hi hz0 hz1 hz2 rfl _ _ rfl ((HO3.out.alloc _).alloc _) _ [⟨ck, key, nm, vl, tt⟩] rfl ?qm ?q1 ?q2 ?q3 ?_)
            case qm =>
              have h9 := SegE.of_blk (E := chgE) (l := [⟨ck, key, nm, vl, tt⟩]) (cap := 1) (Blk.new (w3.alloc (.cells #[.int .i64 ck, .string key, .string nm, .string vl, .string tt] 27)) #[.int .i64 ck, .string key, .string nm, .string vl, .string tt] 27) (by simp) (by decide) rfl
              rw [World.size_alloc] at h9
              exact h9
            case q1 => have h1 := HA.out; show (acc.length + 1) * 5 ≤ _; omega
            case q2 => have h1 := HA.out; show (acc.length + 1) * 72 ≤ _; omega
            case q3 => simp; omega
            intro v' w5 hO5 hb5 _
            have HO5 := Lib.hid hO5
            have HB5 := Lib.hid ((HB4.out.alloc HB4.out.size _).trans hb5)
            clear hO5 hb5
            go_wp2
            go_roundw
            case rel => exact ⟨k + 1, _, by omega, by go_num, by rw [List.length_append, HA.out]; rfl, by omega, HRR, HO5, HB5⟩
            case measure => simp [intOf]; omega
    · have e1 : decide ((k : Int) < (n : Int)) = false := by simp; omega
      obtain rfl : k = n := by omega
      obtain rfl : RS = (acc, (acc.length : Int), 0) := by
        rw [HRS.out]
        have := HG.out []
        rw [List.append_nil, List.take_of_length_le (by rw [← HNn.out]; exact Nat.le_refl _)] at this
        rw [this]
        rfl
      go_wp2_with fail
      exact bodyPost_ret (v := .tuple #[.slice ov k cv, .int .i64 (k : Int), .int .i64 0]) (by simp [results, Try.results22]) rfl ⟨_, by rw [HA.out], (HO.out.mono HB1.out.size), below_later HB1.out HB.out⟩
end Go.Proofs.Ytoajaacdhkknfaa

