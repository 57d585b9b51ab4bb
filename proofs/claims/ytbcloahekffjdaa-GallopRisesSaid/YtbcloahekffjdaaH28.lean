/- GallopRises: the law's walk. -/
import Derived.Test.YtbcloahekffjdaaH26
import Derived.Test.YtbcloahekffjdaaH27
import Derived.Test.YtbcloahekffjdaaH10
import Derived.Deep.CutBlock
import Derived.Lib.MinMax
namespace Go.Proofs.Kit
theorem inc_dd : ∀ l : List Int, l.Pairwise (· ≤ ·) → Inc (dd l) := by
  intro l
  induction l with
  | nil => intro _; exact List.Pairwise.nil
  | cons x t ih =>
    intro h
    cases t with
    | nil => exact List.pairwise_singleton _ _
    | cons y t =>
      have h2 := List.pairwise_cons.1 h
      have h3 := ih h2.2
      unfold dd
      split
      · exact h3
      · next hxy =>
        refine List.pairwise_cons.2 ⟨fun z hz => ?_, h3⟩
        have hz' := (dd_mem _ _).1 hz
        have h4 := h2.1 y (by simp)
        have h5 : y ≤ z := by
          rcases List.mem_cons.1 hz' with e | e
          · rw [e]; exact Int.le_refl _
          · exact (List.pairwise_cons.1 h2.2).1 z e
        omega
end Go.Proofs.Kit
namespace Go.Proofs.Ytbcloahekffjdaa
open Go.RowKit Go.Proofs.Kit
theorem rises_le {l : List Int} {low high : Int} {f : Nat} (hf : f ≤ l.length) (h : low ≤ high) : sk (ge low) l f ≤ sk (ge high) l f := by
  have h0 := sk_le (p := ge low) hf
  by_cases c : sk (ge low) l f ≤ sk (ge high) l f
  · exact c
  · exfalso
    have hl : sk (ge high) l f < l.length := by omega
    have h1 := sk_at hl
    have h2 := sk_before (sk_ge (ge high) l f) (show sk (ge high) l f < sk (ge low) l f by omega) hl
    simp only [ge, decide_eq_true_eq, decide_eq_false_iff_not] at h1 h2
    omega
theorem rises_seek {l : List Int} {low high : Int} {f : Nat} (hf : f ≤ l.length) (h : low ≤ high) : sk (ge high) l (sk (ge low) l f) = sk (ge high) l f := by
  refine sk_from (sk_ge _ _ _) (sk_le hf) fun k hk h1 h2 => ?_
  have := sk_before (p := ge low) h1 h2 hk
  simp only [ge, decide_eq_false_iff_not] at this ⊢
  omega
theorem behind_tells {l : List Int} (hi : Inc l) {key : Int} {k : Nat} (hk : k < l.length) : decide (l[k] ≤ key) = decide (k < sk (gt key) l 0) := by
  rw [decide_eq_decide]
  constructor
  · intro h
    by_cases c : k < sk (gt key) l 0
    · exact c
    · have hl : sk (gt key) l 0 < l.length := by omega
      have h1 := sk_at hl
      have h2 := hi.le hk (show sk (gt key) l 0 ≤ k by omega)
      simp only [gt, decide_eq_true_eq] at h1
      omega
  · intro h
    have := sk_before (Nat.zero_le _) h hk
    simp only [gt, decide_eq_false_iff_not] at this
    omega
theorem rises_span {l : List Int} {low high : Int} (h : low ≤ high) : sk (ge low) l 0 ≤ sk (gt high) l 0 := by
  rw [← sk_span h]
  exact sk_ge _ _ _
set_option maxHeartbeats 1000000 in
theorem far_any (b4 : Nat) (F a p n : Nat) (w : World) (hc : w.cell? ⟨b4, 0, none⟩ = some (.int .i64 (F : Int))) (hFa : F ≤ a) (han : a ≤ n) (hFn : F ≤ n) (hn : n ≤ 1000000) (hp : Lks n F a p) :
    Calls Try.prog 29 #[.int .i64 (a : Int), .int .i64 (p : Int), .pointer (some ⟨b4, 0, none⟩)] w fun e w' => e = .returned (.bool true) ∧ w' = w := by
  have hlog := fun w => gLog_any (1 + (a : Int) - (F : Int)) (by omega) (by omega) w
  rw [show (1 + (a : Int) - (F : Int)).toNat = 1 + a - F by omega] at hlog
  have hb : p ≤ 2 + 2 * Nat.log2 (1 + a - F) := by
    by_cases e : F = n
    · rw [hp.1 e]; omega
    · exact (hp.2 (by omega)).2
  have hlt : Nat.log2 (1 + a - F) ≤ 20 := by
    have := (Nat.log2_lt (n := 1 + a - F) (k := 20) (by omega)).2 (by omega)
    omega
  obtain ⟨q, hq⟩ : ∃ q, q = Nat.log2 (1 + a - F) := ⟨_, rfl⟩
  rw [← hq] at hlog hb hlt
  clear hq hp
  have hd : decide ((p : Int) ≤ 2 + 2 * (q : Int)) = true := by rw [decide_eq_true_eq]; omega
  go_enter Try.func29, Try.ntmps29
  go_wp2_with (go_at_call 26; refine (hlog _).mono ?_; rintro e w' ⟨rfl, rfl⟩)
  go_ret
  exact ⟨rfl, rfl⟩
set_option maxRecDepth 100000 in
set_option maxHeartbeats 2000000 in
theorem rises_true (o : Option Addr) (n c : Nat) (l0 : List Int) (f k0 k1 : Int) (w : World) (hl : l0.length = n) (hc : n ≤ c) (hm : c ≤ 9223372036854775807) (h : ArgI .u64 w o c l0) :
    Calls Try.prog 7 #[.slice o n c, .int .i64 f, .agg #[.int .u64 k0, .int .u64 k1]] w fun e w' => e = .returned (.bool true) ∧ Below w.heap.size w w' := by
  have HL := Lib.hid hl
  have HA := Lib.hid h
  clear hl h
  go_enter Try.func7, Try.ntmps7
  go_wp2_with fail
  obtain ⟨W0, hW0⟩ : ∃ W0, W0 = (w.alloc (.cells #[.int .i64 f] 3)).alloc (.cells #[.int .u64 k0, .int .u64 k1] 45) := ⟨_, rfl⟩
  have B0 : Below w.heap.size w W0 := by rw [hW0]; exact ((Below.refl _ _).alloc (Nat.le_refl _) _).alloc (by simp) _
  have k4 : Blk W0 w.heap.size #[.int .i64 f] 3 := by rw [hW0]; exact (Blk.new _ _ _).alloc _
  have k5 : Blk W0 (w.heap.size + 1) #[.int .u64 k0, .int .u64 k1] 45 := by rw [hW0]; have := Blk.new (w.alloc (.cells #[.int .i64 f] 3)) #[.int .u64 k0, .int .u64 k1] 45; simpa using this
  rw [← hW0]
  clear hW0
  refine (wakes4_true _).mono ?_
  rintro e w1 ⟨rfl, b1⟩
  have B1 := B0.trans (b1.mono B0.size)
  have K4 := Lib.hid (k4.later b1)
  have K5 := Lib.hid (k5.later b1)
  have hk5 : w.heap.size + 1 < w1.heap.size := K5.out.lt
  clear k4 k5 b1 B0
  go_wp2_with fail
  refine (few4_any o n c l0 w1 HL.out hc hm (HA.out.later B1)).mono ?_
  rintro e w2 ⟨v, rfl, ho, b2⟩
  have B2 := B1.trans (b2.mono B1.size)
  have K4 := Lib.hid (K4.out.later b2)
  have K5 := Lib.hid (K5.out.later b2)
  have hn2 : (l0.take 200).length ≤ 200 := by simp; omega
  have HO := Lib.hid (Owns.ow ho)
  have hb12 : w1.heap.size ≤ w2.heap.size := b2.size
  clear ho b2
  go_wp2_with fail
  refine (sort_any w1.heap.size v (l0.take 200) w2 HO.out (by omega) hb12).mono ?_
  rintro e w3 ⟨l', rfl, ho3, hlen, hsrt, b3⟩
  have B3 := B2.trans (b3.mono B1.size)
  have K4 : Hid (Blk w3 w.heap.size #[.int .i64 f] 3) := Lib.hid ((b3.block _ (by omega)).trans K4.out)
  have K5 : Hid (Blk w3 (w.heap.size + 1) #[.int .u64 k0, .int .u64 k1] 45) := Lib.hid ((b3.block _ hk5).trans K5.out)
  have hb13 : w1.heap.size ≤ w3.heap.size := Nat.le_trans hb12 b3.size
  have HO3 := Lib.hid (Ow.owns ho3)
  have hinc := inc_dd l' hsrt
  have hdl := dd_len l'
  clear ho3 hsrt b3 HO
  go_wp2_with fail
  refine (compactu_any w1.heap.size v l' w3 HO3.out).mono ?_
  rintro e w4 ⟨v', rfl, ho4, b4⟩
  have B4 := B3.trans (b4.mono B1.size)
  have K4 : Hid (Blk w4 w.heap.size #[.int .i64 f] 3) := Lib.hid ((b4.block _ (by omega)).trans K4.out)
  have K5 : Hid (Blk w4 (w.heap.size + 1) #[.int .u64 k0, .int .u64 k1] 45) := Lib.hid ((b4.block _ hk5).trans K5.out)
  obtain ⟨L, hL⟩ : ∃ L, L = dd l' := ⟨_, rfl⟩
  rw [← hL] at ho4 hinc hdl
  have hLn : L.length ≤ 200 := by omega
  have HO4 := Lib.hid ho4
  have HI := Lib.hid hinc
  obtain ⟨o4, c4, rfl⟩ := ho4.shape
  have hb14 : w1.heap.size ≤ w4.heap.size := Nat.le_trans hb13 b4.size
  clear hL ho4 hinc hdl hlen hn2 b4 HO3
  obtain ⟨m, hm'⟩ : ∃ m, m = L.length := ⟨_, rfl⟩
  rw [← hm'] at hLn HO4 ⊢
  have HM := Lib.hid hm'
  clear hm'
  obtain ⟨F, hF, ej⟩ : ∃ F : Nat, F ≤ m ∧ wrap64 ((IntKind.u64.wrap f).tmod ((m : Int) + 1)) = (F : Int) := by
    have h0 : 0 ≤ IntKind.u64.wrap f := by rw [IntKind.wrap_u64]; omega
    rw [Int.tmod_eq_emod_of_nonneg h0]
    have h1 := Int.emod_nonneg (IntKind.u64.wrap f) (show (m : Int) + 1 ≠ 0 by omega)
    have h2 := Int.emod_lt_of_pos (IntKind.u64.wrap f) (show (0 : Int) < (m : Int) + 1 by omega)
    refine ⟨((IntKind.u64.wrap f) % ((m : Int) + 1)).toNat, by omega, ?_⟩
    generalize (IntKind.u64.wrap f) % ((m : Int) + 1) = z at h1 h2 ⊢
    unfold wrap64
    omega
  have EJ := Lib.hid ej
  clear ej
  have c4' : w4.cell? ⟨w.heap.size, 0, none⟩ = some (.int .i64 f) := K4.out.cell 0
  have f4' : w4.frozen? ⟨w.heap.size, 0, none⟩ = false := K4.out.frozen 0
  have l4' : w.heap.size < w4.heap.size := K4.out.lt
  go_upto_region 7 with (fail)
  rw [EJ.out]
  have ho5 : Ow 27 w1.heap.size (w4.setCell ⟨w.heap.size, 0, none⟩ (.int .i64 (F : Int))) (.slice o4 m c4) (L.map (Value.int .u64)) := (Owns.ow HO4.out).same fun g hg => Below.heap_setCell _ _ _ _ (by rintro rfl; have h9 : w1.heap.size ≤ w.heap.size := ((Owns.ow HO4.out).lt _ hg).1; omega)
  have k4 : Blk (w4.setCell ⟨w.heap.size, 0, none⟩ (.int .i64 (F : Int))) w.heap.size #[.int .i64 (F : Int)] 3 := by
    have := K4.out.set 0 (.int .i64 (F : Int))
    simpa using this
  have k5 : Blk (w4.setCell ⟨w.heap.size, 0, none⟩ (.int .i64 (F : Int))) (w.heap.size + 1) #[.int .u64 k0, .int .u64 k1] 45 := K5.out.other (by simp) _
  have B5 : Below w.heap.size w (w4.setCell ⟨w.heap.size, 0, none⟩ (.int .i64 (F : Int))) := B4.setCell (Nat.le_refl _) _
  have hs5 : w1.heap.size ≤ (w4.setCell ⟨w.heap.size, 0, none⟩ (.int .i64 (F : Int))).heap.size := by simpa using hb14
  obtain ⟨W5, hW5⟩ : ∃ W5, W5 = w4.setCell ⟨w.heap.size, 0, none⟩ (.int .i64 (F : Int)) := ⟨_, rfl⟩
  rw [← hW5] at ho5 k4 k5 B5 hs5 ⊢
  clear hW5 c4' f4' l4' EJ HO4 K4 K5 B4
  obtain ⟨low, hlow⟩ : ∃ low, low = min k0 k1 := ⟨_, rfl⟩
  obtain ⟨high, hhigh⟩ : ∃ high, high = max k0 k1 := ⟨_, rfl⟩
  have hlh : low ≤ high := by omega
  have e0 : W5.cell? ⟨w.heap.size + 1, 0, none⟩ = some (.int .u64 k0) := k5.cell 0
  have e1 : W5.cell? ⟨w.heap.size + 1, 1, none⟩ = some (.int .u64 k1) := k5.cell 1
  have l5 : w.heap.size + 1 < W5.heap.size := k5.lt
  go_wp2
  go_quiet (fail)
  rw [← hlow, ← hhigh]
  clear hlow hhigh e0 e1 l5
  have HO : Hid (Ow 27 w1.heap.size (W5.drewN nq) (.slice o4 m c4) (L.map (Value.int .u64))) := Lib.hid ho5
  have K4 : Hid (Blk (W5.drewN nq) w.heap.size #[.int .i64 (F : Int)] 3) := Lib.hid k4
  have B6 : Below w.heap.size w (W5.drewN nq) := below_drN B5 nq
  obtain ⟨W6, hW6⟩ : ∃ W6, W6 = W5.drewN nq := ⟨_, rfl⟩
  rw [← hW6] at HO K4 B6 ⊢
  clear hW6 ho5 k4 k5 B5 hs5
  have d4 : W6.cell? ⟨w.heap.size, 0, none⟩ = some (.int .i64 (F : Int)) := K4.out.cell 0
  have hFL : F ≤ L.length := by rw [← HM.out]; exact hF
  have hL6 : L.length ≤ 1000000 := by rw [← HM.out]; omega
  go_wp2_with fail
  refine (gSeek_ok _ L W6 HO.out.sl.seg hL6 HI.out F hFL low).mono ?_
  rintro e w7 ⟨p, rfl, hp, b7⟩
  have B7 := B6.trans (b7.mono B6.size)
  have HO7 := Lib.hid (HO.out.later b7)
  have K7 := Lib.hid (K4.out.later b7)
  obtain ⟨a, ha⟩ : ∃ a, a = sk (ge low) L F := ⟨_, rfl⟩
  rw [← ha] at hp ⊢
  have hFa : F ≤ a := by rw [ha]; exact sk_ge _ _ _
  have haL : a ≤ L.length := by rw [ha]; exact sk_le hFL
  have hab : a ≤ sk (ge high) L F := by rw [ha]; exact rises_le hFL hlh
  have hcb : sk (ge high) L a = sk (ge high) L F := by rw [ha]; exact rises_seek hFL hlh
  have HP := Lib.hid hp
  clear ha hp b7 HO K4 d4 B6
  have d4 : w7.cell? ⟨w.heap.size, 0, none⟩ = some (.int .i64 (F : Int)) := K7.out.cell 0
  go_wp2_with fail
  refine (gSeek_ok _ L w7 HO7.out.sl.seg hL6 HI.out F hFL high).mono ?_
  rintro e w8 ⟨q, rfl, hq, b8⟩
  have B8 := B7.trans (b8.mono B7.size)
  have HO8 := Lib.hid (HO7.out.later b8)
  have K8 := Lib.hid (K7.out.later b8)
  obtain ⟨b, hb⟩ : ∃ b, b = sk (ge high) L F := ⟨_, rfl⟩
  rw [← hb] at hq hab hcb ⊢
  have hbL : b ≤ L.length := by rw [hb]; exact sk_le hFL
  have HQ := Lib.hid hq
  clear hb hq b8 HO7 K7 d4 B7
  go_wp2_with fail
  refine (gSeek_ok _ L w8 HO8.out.sl.seg hL6 HI.out a haL high).mono ?_
  rintro e w9 ⟨q2, rfl, hq2, b9⟩
  have B9 := B8.trans (b9.mono B8.size)
  have HO9 := Lib.hid (HO8.out.later b9)
  have K9 := Lib.hid (K8.out.later b9)
  rw [hcb]
  have hab1 : decide ((b : Int) < (a : Int)) = false := by rw [decide_eq_false_iff_not]; omega
  have hab2 : decide (b < a) = false := by rw [decide_eq_false_iff_not]; omega
  clear hcb hq2 b9 HO8 K8 B8
  go_wp2_with fail
  refine (span_ok _ L w9 HO9.out.sl.seg hL6 HI.out low high hlh).mono ?_
  rintro e w10 ⟨rfl, b10⟩
  have B10 := B9.trans (b10.mono B9.size)
  have HO10 := Lib.hid (HO9.out.later b10)
  have K10 := Lib.hid (K9.out.later b10)
  have hfl := rises_span (l := L) hlh
  obtain ⟨fi, hfi⟩ : ∃ fi, fi = sk (ge low) L 0 := ⟨_, rfl⟩
  obtain ⟨la, hla⟩ : ∃ la, la = sk (gt high) L 0 := ⟨_, rfl⟩
  have hlaL : la ≤ L.length := by rw [hla]; exact sk_le (Nat.zero_le _)
  have hT1 : ∀ k (hk : k < L.length), decide (low ≤ L[k]) = decide (fi ≤ k) := fun k hk => seek_tells HI.out hfi hk (Nat.zero_le _)
  have hT2 : ∀ k (hk : k < L.length), decide (L[k] ≤ high) = decide (k < la) := fun k hk => by rw [hla]; exact behind_tells HI.out hk
  rw [← hfi, ← hla] at hfl ⊢
  have HT1 := Lib.hid hT1
  have HT2 := Lib.hid hT2
  rw [← HM.out] at hlaL
  clear hfi hla hT1 hT2 b10 HO9 K9 B9 hab1 hab2
  go_wp2
  go_loopw [21, 23, 104] (fun s _ v wr => ∃ k : Nat, k ≤ m ∧ v = .int .i64 (k : Int) ∧ s = .int .i64 ((min k la - min k fi : Nat) : Int) ∧ Hid (Below w10.heap.size w10 wr)) (fun _ _ v _ => m - (intOf v).toNat)
  case atStart => exact ⟨0, Nat.zero_le _, rfl, by simp, Lib.hid (Below.refl _ _)⟩
  case round =>
    obtain ⟨k, hk, rfl, hs, HB⟩ := hrel
    obtain ⟨s, hs'⟩ : ∃ s, s = min k la - min k fi := ⟨_, rfl⟩
    rw [← hs'] at hs
    subst hs
    have hsb : s ≤ 200 := by omega
    by_cases hkm : k < m
    · have hkL : k < L.length := by rw [← HM.out]; exact hkm
      obtain ⟨o', cap', eo, _, _, hcase⟩ := (HO10.out.later HB.out).sl.mshape
      injection eo with e1 e2 e3
      subst e1
      rcases hcase with hnil | ⟨g, off, rfl, hgl, hcell⟩
      · rw [hnil] at hkL; simp at hkL
      · have d := hcell k hkL
        have h1 := HT1.out k hkL
        have h2 := HT2.out k hkL
        obtain ⟨x, hx⟩ : ∃ x, x = L[k] := ⟨_, rfl⟩
        rw [← hx] at d h1 h2
        clear hx hcell
        by_cases c1 : fi ≤ k
        · rw [decide_eq_true c1] at h1
          by_cases c2 : k < la
          · rw [decide_eq_true c2] at h2
            have hnx : min (k + 1) la - min (k + 1) fi = s + 1 := by omega
            have HNX := Lib.hid hnx
            clear hs' hnx c1 c2
            go_wp2
            go_roundw
            case rel => exact ⟨k + 1, by omega, by go_num, by rw [HNX.out]; go_num, HB⟩
            case measure => simp [intOf]; omega
          · rw [decide_eq_false c2] at h2
            have hnx : min (k + 1) la - min (k + 1) fi = s := by omega
            have HNX := Lib.hid hnx
            clear hs' hnx c1 c2
            go_wp2
            go_roundw
            case rel => exact ⟨k + 1, by omega, by go_num, by rw [HNX.out], HB⟩
            case measure => simp [intOf]; omega
        · rw [decide_eq_false c1] at h1
          have hnx : min (k + 1) la - min (k + 1) fi = s := by omega
          have HNX := Lib.hid hnx
          clear hs' hnx c1 h2
          go_wp2
          go_roundw
          case rel => exact ⟨k + 1, by omega, by go_num, by rw [HNX.out], HB⟩
          case measure => simp [intOf]; omega
    · have hse : (la : Int) - (fi : Int) = (s : Int) := by omega
      have B11 := B10.trans (HB.out.mono B10.size)
      have K11 := K10.out.later HB.out
      have d4 : wr.cell? ⟨w.heap.size, 0, none⟩ = some (.int .i64 (F : Int)) := K11.cell 0
      have HFA := Lib.hid (far_any w.heap.size F a p L.length wr d4 hFa haL hFL hL6 HP.out)
      have HFB := Lib.hid (far_any w.heap.size F b q L.length wr d4 (by omega) hbL hFL hL6 HQ.out)
      clear hs' K11 d4
      go_wp2_with fail
      refine HFA.out.mono ?_
      rintro e w' ⟨rfl, rfl⟩
      go_wp2_with fail
      refine HFB.out.mono ?_
      rintro e w' ⟨rfl, rfl⟩
      go_wp2
      go_ret
      exact ⟨rfl, B11⟩
end Go.Proofs.Ytbcloahekffjdaa
