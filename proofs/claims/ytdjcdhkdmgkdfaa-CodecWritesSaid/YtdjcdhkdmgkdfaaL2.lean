/- CodecSums: the law's walk. -/
import Derived.Test.YtdjcdhkdmgkdfaaD1
import Derived.Test.YtdjcdhkdmgkdfaaQ1
namespace Go.Proofs.Ytdjcdhkdmgkdfaa
open Go.RowKit Go.Proofs.Kit Go.Shelf

theorem ArgI.of_seg {k : IntKind} {w : World} {o : Option Addr} {n c : Nat} {l : List Int} (h : Seg k w (.slice o n c) l) : ArgI k w o c l ∧ l.length = n := by
  rcases h.2 with ⟨h1, rfl⟩ | ⟨b, off, cap, h1, h2, h3, h4, h5⟩
  · injection h1 with e1 e2 e3
    exact ⟨.inl ⟨e1, rfl, e3⟩, by simp [e2]⟩
  · injection h1 with e1 e2 e3
    exact ⟨.inr ⟨_, e1, fun i hi => by rw [Addr.add_lit]; exact h5 i hi⟩, e2.symm⟩

set_option maxHeartbeats 1000000 in
theorem sums_true (o : Option Addr) (n c : Nat) (l : List Int) (w : World) (hl : l.length = n) (hc : n ≤ c) (hm : c ≤ 9223372036854775807) (h : ArgI .u8 w o c l) (hby : Byt l)
    (a : Int) (y : Int) (hy : 0 ≤ y ∧ y < 256) :
    Calls Try.prog 6 #[.slice o n c, .int .i64 a, .int .u8 y] w fun e w' => e = .returned (.bool true) ∧ Below w.heap.size w w' := by
  have HL := Lib.hid hl
  have HA := Lib.hid h
  clear hl h
  go_enter Try.func6, Try.ntmps6
  go_wp2_with fail
  refine (wakes_true _).mono ?_
  rintro e w1 ⟨rfl, B1⟩
  go_wp2_with fail
  refine (few_any o n c l _ HL.out hc hm (HA.out.later B1)).mono ?_
  rintro e w2 ⟨v2, rfl, o2, b2⟩
  have B2 := B1.trans (b2.mono B1.size)
  have hbb : Byt (l.take 300) := fun x hx => hby x (List.mem_of_mem_take hx)
  obtain ⟨b, hb⟩ : ∃ b, b = l.take 300 := ⟨_, rfl⟩
  have hb300 : b.length ≤ 300 := by rw [hb]; simp; omega
  rw [← hb] at o2 hbb
  have HBB := Lib.hid hbb
  have s2 := o2.seg
  obtain ⟨p2, c2, rfl, hc2, hc2', _⟩ := s2.shape
  obtain ⟨m, hm'⟩ : ∃ m, m = b.length := ⟨_, rfl⟩
  have HO2 := Lib.hid (o2.mono B1.size)
  rw [← hm'] at HO2 hb300 hc2 ⊢
  have HM := Lib.hid hm'
  clear hb hm' s2 o2 b2 hbb HA HL hby
  by_cases h0 : m = 0
  · have t0 : ((m : Int) == 0) = true := by simpa using h0
    have HS := Lib.hid (HO2.out.seg)
    have hb0 : b = [] := List.length_eq_zero_iff.1 (by rw [← HM.out]; exact h0)
    have HB0 := Lib.hid hb0
    clear h0 hb0
    go_wp2_with fail
    refine (sum_any _ _ _ HS.out HBB.out).mono ?_
    rw [HB0.out]
    rintro e w3 ⟨rfl, rfl⟩
    go_wp2_with fail
    go_ret
    exact ⟨rfl, B2⟩
  · have t0 : ((m : Int) == 0) = false := by simpa using h0
    have hm1 : 1 ≤ m := by omega
    clear h0
    obtain ⟨k, hk⟩ : ∃ k : Nat, (k : Int) = a % 18446744073709551616 % (m : Int) := ⟨(a % 18446744073709551616 % (m : Int)).toNat, by
      have := Int.emod_nonneg (a % 18446744073709551616) (show (m : Int) ≠ 0 by omega); omega⟩
    have hkm : k < m := by
      have := Int.emod_lt_of_pos (a % 18446744073709551616) (show (0 : Int) < (m : Int) by omega); omega
    have hkk : (IntKind.u64.wrap a).tmod (m : Int) = (k : Int) := by rw [IntKind.wrap_u64, tmod_of_emod]; exact hk.symm
    clear hk
    go_wp2_with fail
    refine (cloneb_any p2 m c2 b _ (ArgI.of_seg HO2.out.seg).2 (by omega) (ArgI.of_seg HO2.out.seg).1).mono ?_
    rintro e w3 ⟨v3, rfl, o3, b3⟩
    have B3 := B2.trans (b3.mono B2.size)
    have hkb : k < b.length := by have := HM.out; omega
    obtain ⟨g3, c3, rfl, hl3, hc3, hg3, hg3', k3, f3, o3'⟩ := o3.set hkb y
    have o23 := HO2.out.later b3
    have hne : ∀ r, (Value.slice p2 m c2).ownBlock = some r → r ≠ g3 := fun r hr => by have := (HO2.out.lt r hr).2; omega
    have o24 : Owns .u8 5 w.heap.size (w3.setCell ⟨g3, k, none⟩ (.int .u8 y)) (.slice p2 m c2) b := ownsRow_setCell_other o23 (fun e => hne _ e rfl) _
    have B4 : Below w.heap.size w (w3.setCell ⟨g3, k, none⟩ (.int .u8 y)) := B3.setCell (Nat.le_trans B2.size hg3) _
    rw [← HM.out] at hl3 ⊢
    have HO24 := Lib.hid o24
    have HO3 := Lib.hid o3'
    clear hkk o3 b3 o23 o24 o3' hne
    go_wp2_with fail
    obtain ⟨w4, hw4⟩ : ∃ w4, w4 = w3.setCell ⟨g3, k, none⟩ (.int .u8 y) := ⟨_, rfl⟩
    rw [← hw4] at HO24 HO3 B4 ⊢
    clear hw4 k3 f3 hg3' hg3
    have sb := HO24.out.seg
    have sc : Seg .u8 w4 (.slice (some ⟨g3, 0, none⟩) m c3) (b.set k y) := by have h := HO3.out.seg; rw [← HM.out] at h; exact h
    have hbc : Byt (b.set k y) := fun x hx => by
      rcases List.mem_or_eq_of_mem_set hx with h | h
      · exact HBB.out x h
      · subst h; exact hy
    obtain ⟨p2', _, hp2, _, _, hcells⟩ := sb.shape
    injection hp2 with hp2 hq1 hq2
    subst hp2
    clear hq1 hq2
    obtain ⟨bb, bf, rfl, hbb, hcells⟩ := hcells.resolve_left (fun e => by rw [e] at hkb; simp at hkb)
    have hcell := hcells k hkb
    obtain ⟨x, hx⟩ : ∃ x, x = b[k] := ⟨_, rfl⟩
    rw [← hx] at hcell
    obtain ⟨S1, hS1⟩ : ∃ S, S = sumB b := ⟨_, rfl⟩
    obtain ⟨S2, hS2⟩ : ∃ S, S = sumB (b.set k y) := ⟨_, rfl⟩
    have hiff : S1 = S2 ↔ x = y := by rw [hS1, hS2, hx]; exact sum_set hkb HBB.out hy.1 hy.2
    have hsb := fun nq => (sum_any _ b (w4.drewN nq) (sb.later (below_drN (Below.refl _ _) nq)) HBB.out)
    have hsc := fun nq => (sum_any _ (b.set k y) (w4.drewN nq) (sc.later (below_drN (Below.refl _ _) nq)) hbc)
    rw [← hS1] at hsb
    rw [← hS2] at hsc
    have HSB := Lib.hid hsb
    have HSC := Lib.hid hsc
    have HS1 := Lib.hid hS1
    have HS2 := Lib.hid hS2
    have HX := Lib.hid hx
    have HIFF := Lib.hid hiff
    have HCB := Lib.hid hbc
    clear hsb hsc hS1 hS2 hx hcells hiff hbc sb sc
    have hss : (S1 == S2) = (x == y) := by
      have h := HIFF.out
      by_cases e : x = y
      · have := h.2 e; simp [e, this]
      · have e2 : ¬ S1 = S2 := fun q => e (h.1 q)
        rw [beq_eq_false_iff_ne.2 e, beq_eq_false_iff_ne.2 e2]
    obtain ⟨t, ht⟩ : ∃ t, t = (x == y) := ⟨_, rfl⟩
    rw [← ht] at hss
    have hxy : (x == y) = t := ht.symm
    have HT := Lib.hid hxy
    clear ht
    cases t
    all_goals
      go_quiet (first | (go_at_call 25; with_reducible refine Calls.quiet_of_same (HSB.out _)) | (go_at_call 25; with_reducible refine Calls.quiet_of_same (HSC.out _)))
      go_wp2_with fail
      refine (frame_any _ b _ (HO24.out.seg.later (below_drN (Below.refl _ _) nq)) HBB.out (by have := HM.out; omega)).mono ?_
      rintro e w5 ⟨v5, rfl, o5, b5⟩
      obtain ⟨f, hf⟩ : ∃ f, f = bytesFrame b := ⟨_, rfl⟩
      rw [← hf] at o5
      obtain ⟨q, hq⟩ : ∃ q, q = (sept m).length := ⟨_, rfl⟩
      have hq1 : 1 ≤ q := hq ▸ sept_pos m
      have hq2 : q ≤ 10 := hq ▸ sept_ten (by omega)
      have hfl : f.length = q + m + 4 := by rw [hf, bytesFrame, ← HM.out, List.length_append, List.length_append, four, lowB_len, ← HM.out, hq]; omega
      obtain ⟨g5, c5, rfl, hl5, hc5, hg5, hg5', k5, f5, o5'⟩ := o5.set (i := q + k) (by omega) y
      rw [hfl] at hl5 ⊢
      have hset : f.set (q + k) y = sept m ++ (b.set k y ++ four S1) := by
        rw [hf, bytesFrame, ← HM.out, ← HS1.out, List.set_append_right _ _ (by omega), List.set_append_left _ _ (by have := HM.out; omega)]
        congr 3
        omega
      have b5' : Below w4.heap.size (w4.drewN nq) w5 := b5
      have hg5x : w4.heap.size ≤ g5 := hg5
      have b6 : Below w4.heap.size w4 (w5.setCell ⟨g5, q + k, none⟩ (.int .u8 y)) := ((below_drN (Below.refl w4.heap.size w4) nq).trans b5').setCell hg5x _
      have B6 : Below w.heap.size w (w5.setCell ⟨g5, q + k, none⟩ (.int .u8 y)) := B4.trans (b6.mono B4.size)
      have hc6 : (w5.setCell ⟨g5, q + k, none⟩ (.int .u8 y)).cell? ⟨bb, bf + k, none⟩ = some (.int .u8 x) := (b6.cell (p := ⟨bb, bf + k, none⟩) hbb).trans hcell
      obtain ⟨z5, hz5⟩ : ∃ z, w5.cell? ⟨g5, q + k, none⟩ = some (.int .u8 z) := ⟨_, k5⟩
      clear k5
      obtain ⟨w6, hw6⟩ : ∃ w6, w6 = w5.setCell ⟨g5, q + k, none⟩ (.int .u8 y) := ⟨_, rfl⟩
      have HW6 := Lib.hid hw6
      rw [← hw6] at b6 B6 hc6 o5'
      clear hw6
      have HSET := Lib.hid hset
      have HO5 := Lib.hid o5'
      have HQ := Lib.hid hq
      have HFL := Lib.hid hfl
      have e1 : (q : Int) + (m : Int) + 4 - (m : Int) - 4 = (q : Int) := by omega
      clear hf hset o5 b5 b5' o5' hq hcell hfl hg5 hg5x
      go_wp2_with fail
      rw [← HW6.out]
      have s6 : Seg .u8 w6 (.slice (some ⟨g5, 0, none⟩) (q + m + 4) c5) (f.set (q + k) y) := by rw [← HFL.out]; exact (HO5.out : Owns .u8 5 w4.heap.size w6 _ _).seg
      have hF : f.set (q + k) y = sept (b.set k y).length ++ (b.set k y ++ (four S1 ++ [])) := by rw [HSET.out, List.length_set, ← HM.out, List.append_nil]
      have hby6 : Byt (f.set (q + k) y) := by
        rw [HSET.out]
        intro u hu
        rcases List.mem_append.1 hu with hu | hu
        · exact sept_byt m u hu
        · rcases List.mem_append.1 hu with hu | hu
          · exact HCB.out u hu
          · exact lowB_byt 4 S1 u hu
      have hbd := sumB_bd b
      rw [← HS1.out] at hbd
      have hrd := rdFrame_at (bs := f.set (q + k) y) (p := 0) (x := b.set k y) (rest := []) (s := S1) (by rw [List.drop_zero]; exact hF) (by have := HM.out; simp; omega) hbd.1 hbd.2
      rw [← HS2.out] at hrd
      have hl6 : (f.set (q + k) y).length ≤ 1000000000 := by have := HFL.out; simp; omega
      refine (readb_any 0 _ _ _ s6 hby6 hl6 (by omega)).mono ?_
      intro e w7 h
      have hT := HT.out
      have hI := HIFF.out
      first
        | (have hxy2 : x = y := by simpa using hT
           obtain ⟨v7, rfl, _, b7⟩ := h.ok (hrd.trans (if_pos (hI.2 hxy2)))
           have hc7 : w7.cell? ⟨bb, bf + k, none⟩ = some (.int .u8 x) := (b7.cell (p := ⟨bb, bf + k, none⟩) (Nat.lt_of_lt_of_le hbb b6.size)).trans hc6
           have n1 : (x != y) = false := by simpa using hxy2
           have n2 : (x == y) = true := by simpa using hxy2
           have B7 := B6.trans (b7.mono B6.size)
           clear hxy2 hrd hF hbd hT hI h hc6 e1
           go_wp2_with fail
           go_ret
           exact ⟨rfl, B7⟩)
        | (have hxy2 : ¬ x = y := by simpa using hT
           obtain ⟨rfl, b7⟩ := h.err (hrd.trans (if_neg (fun q => hxy2 (hI.1 q))))
           have hc7 : w7.cell? ⟨bb, bf + k, none⟩ = some (.int .u8 x) := (b7.cell (p := ⟨bb, bf + k, none⟩) (Nat.lt_of_lt_of_le hbb b6.size)).trans hc6
           have n1 : (x != y) = true := by simpa using hxy2
           have n2 : (x == y) = false := by simpa using hxy2
           have B7 := B6.trans (b7.mono B6.size)
           clear hxy2 hrd hF hbd hT hI h hc6 e1
           go_wp2_with fail
           go_ret
           exact ⟨rfl, B7⟩)
end Go.Proofs.Ytdjcdhkdmgkdfaa
