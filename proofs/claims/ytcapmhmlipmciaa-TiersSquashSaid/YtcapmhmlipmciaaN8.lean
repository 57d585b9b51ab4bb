/- slices.BinarySearchFunc by run.Compare in a run; run.place; run.Has. -/
import Derived.Test.YtcapmhmlipmciaaN3
namespace Go.Proofs.Kit
open Go.RowKit
/-- How many pairs stand ahead of p. -/
def plc (l : List Pr) (p : Pr) : Nat := l.countP fun x => decide (lt2 x p)
theorem plc_le (l : List Pr) (p : Pr) : plc l p ≤ l.length := List.countP_le_length
theorem plc_of {l : List Pr} {p : Pr} {i : Nat} (hi : i ≤ l.length) (h1 : ∀ k (h : k < l.length), k < i → lt2 l[k] p) (h2 : ∀ k (h : k < l.length), i ≤ k → ¬ lt2 l[k] p) : plc l p = i := by
  unfold plc
  rw [← List.take_append_drop i l, List.countP_append]
  have e1 : (l.take i).countP (fun x => decide (lt2 x p)) = (l.take i).length := List.countP_eq_length.2 fun x hx => by
    obtain ⟨k, hk, rfl⟩ := List.getElem_of_mem hx
    rw [List.length_take] at hk
    rw [List.getElem_take]
    simpa using h1 k (by omega) (by omega)
  have e2 : (l.drop i).countP (fun x => decide (lt2 x p)) = 0 := List.countP_eq_zero.2 fun x hx => by
    obtain ⟨k, hk, rfl⟩ := List.getElem_of_mem hx
    rw [List.length_drop] at hk
    rw [List.getElem_drop]
    simpa using h2 (i + k) (by omega) (by omega)
  rw [e1, e2, List.length_take]
  omega
theorem Run.below {l : List Pr} (h : Run l) {p : Pr} {i j : Nat} (hj : j < l.length) (hij : i ≤ j) (hl : lt2 l[j] p) : lt2 (l[i]'(by omega)) p := by
  by_cases e : i = j
  · subst e; exact hl
  · exact lt2_trans (h.at (by omega) hj (by omega)) hl
theorem plc_zero {l : List Pr} {x p : Pr} (h : ¬ lt2 x p) (hx : ∀ y ∈ l, lt2 x y) : plc l p = 0 := by
  refine List.countP_eq_zero.2 fun y hy => ?_
  simp only [decide_eq_true_eq]
  intro k
  exact h (lt2_trans (hx y hy) k)
theorem plc_lt : ∀ {l : List Pr} (_ : Run l) {p : Pr} {i : Nat} (hi : i < l.length), i < plc l p ↔ lt2 l[i] p
  | [], _, _, _, hi => by simp at hi
  | x :: t, h, p, i, hi => by
    have e : plc (x :: t) p = plc t p + if lt2 x p then 1 else 0 := by simp [plc, List.countP_cons]
    rw [e]
    by_cases hx : lt2 x p
    · rw [if_pos hx]
      cases i with
      | zero => simpa using hx
      | succ i =>
        have := plc_lt (l := t) h.tail (p := p) (i := i) (by simpa using hi)
        simp only [List.getElem_cons_succ]
        rw [← this]
        omega
    · rw [if_neg hx, plc_zero hx h.head]
      simp only [Nat.add_zero, Nat.not_lt_zero, false_iff]
      intro k
      cases i with
      | zero => exact hx k
      | succ i => exact hx (lt2_trans (h.head _ (List.getElem_mem (by simpa using hi))) k)
/-- Where p stands in a run, if it is there. -/
theorem plc_mem {l : List Pr} (h : Run l) (p : Pr) : p ∈ l ↔ ∃ hp : plc l p < l.length, l[plc l p] = p := by
  constructor
  · intro hm
    obtain ⟨i, hi, rfl⟩ := List.getElem_of_mem hm
    have : plc l l[i] = i := plc_of (Nat.le_of_lt hi) (fun k hk hki => h.at hk hi hki) (fun k hk hik hl => by
      by_cases e : k = i
      · subst e; exact lt2_irrefl _ hl
      · exact lt2_asymm hl (h.at hi hk (by omega)))
    exact ⟨by omega, by simp only [this]⟩
  · rintro ⟨hp, e⟩
    exact e ▸ List.getElem_mem hp
end Go.Proofs.Kit
namespace Go.Proofs.Ytcapmhmlipmciaa
open Go.RowKit Go.Proofs.Kit

set_option maxRecDepth 100000 in
set_option maxHeartbeats 2000000 in
theorem search_some (b off n cap : Nat) (l : List Pr) (w : World) (hl : l.length = n) (hn : n ≤ 1048576) (hb : b < w.heap.size) (hc : PCells w b off l) (hr : Run l) (p1 p2 : Int) :
    Calls Try.prog 70 #[.slice (some ⟨b, off, none⟩) n cap, PV p1 p2, .func (.func 51) #[] #[]] w fun e w' => e = .returned (.tuple #[.int .i64 (plc l (p1, p2) : Nat), .bool (decide ((p1, p2) ∈ l))]) ∧ Gr w w' := by
  have hmix := mixed
  have HC := Lib.hid hc
  have HL := Lib.hid hl
  have HR := Lib.hid hr
  clear hc hl hr
  go_enter Try.func70, Try.ntmps70
  go_wp2
  obtain ⟨wb, hwb⟩ : ∃ wb, wb = w.alloc (.cells #[.int .u64 p1, .int .u64 p2] 36) := ⟨_, rfl⟩
  have hk : Blk wb w.heap.size #[.int .u64 p1, .int .u64 p2] 36 := by rw [hwb]; exact Blk.new _ _ _
  have hG0 : Gr w wb := by rw [hwb]; exact Gr.alloc _ _
  rw [← hwb]
  clear hwb
  have HK := Lib.hid hk
  have HCB := Lib.hid (HC.out.below hG0.below hb)
  have hbb : b < wb.heap.size := Nat.lt_of_lt_of_le hb hG0.below.size
  clear hk
  go_loopw [9, 10] (fun a c wr => ∃ i j : Nat, a = .int .i64 (i : Int) ∧ c = .int .i64 (j : Int) ∧ i ≤ j ∧ j ≤ n ∧ Hid ((∀ k (h : k < l.length), k < i → lt2 l[k] (p1, p2)) ∧ (∀ k (h : k < l.length), j ≤ k → ¬ lt2 l[k] (p1, p2))) ∧ Gr wb wr) (fun a c _ => (intOf c).toNat - (intOf a).toNat)
  case atStart => exact ⟨0, n, rfl, rfl, by omega, by omega, Lib.hid ⟨fun k _ hk => by omega, fun k h1 h2 => by have := HL.out; omega⟩, Gr.refl _⟩
  case round =>
    obtain ⟨i, j, rfl, rfl, hij, hjn, HI, hG⟩ := hrel
    have hbr : b < wr.heap.size := Nat.lt_of_lt_of_le hbb hG.below.size
    have hkr := HK.out.later hG.below
    have k1 : ∀ n os, (Sort.grow (wr.drewN n) os).cell? ⟨w.heap.size, 0, none⟩ = some (.int .u64 p1) := fun n os => cell_grown (a := ⟨w.heap.size, 0, none⟩) hkr.lt (hkr.cell 0) n os
    have k2 : ∀ n os, (Sort.grow (wr.drewN n) os).cell? ⟨w.heap.size, 1, none⟩ = some (.int .u64 p2) := fun n os => cell_grown (a := ⟨w.heap.size, 1, none⟩) hkr.lt (hkr.cell 1) n os
    clear hkr
    by_cases hlt : i < j
    · have hm : (i + j) / 2 < l.length := by have := HL.out; omega
      obtain ⟨d1, d2⟩ := (HCB.out.below hG.below hbb).grown hbr hm
      obtain ⟨h, hh⟩ : ∃ h, h = (i + j) / 2 := ⟨_, rfl⟩
      have hx := HI.out
      simp only [← hh] at d1 d2 hm
      have hih : i ≤ h := by omega
      have hhj : h < j := by omega
      obtain ⟨x, hxl⟩ : ∃ x, x = l[h] := ⟨_, rfl⟩
      rw [← hxl] at d1 d2
      have HX := Lib.hid hxl
      clear hxl hx
      obtain ⟨x1, x2⟩ := x
      obtain ⟨t, ht⟩ : ∃ t, t = cf2 (x1, x2) (p1, p2) := ⟨_, rfl⟩
      have htn := cf2_neg (x1, x2) (p1, p2)
      rw [← ht] at htn
      have HT := Lib.hid ht
      clear ht
      have q0 : ((i : Int) + (j : Int)) / 2 = (h : Int) := by omega
      have q1 : (h : Int) < (n : Int) := by omega
      have q2 : (h : Int) < (j : Int) := by omega
      have q3 : h < n := by omega
      have HH := Lib.hid hh
      clear hh
      by_cases h0 : t < 0
      · have ht0 : decide (t < 0) = true := by simpa using h0
        have HLT := Lib.hid (htn.1 h0)
        clear htn
        go_wp2
        go_quiet_grown ((go_at_call 51; refine Calls.gr_of (compare_at _ _ _ _ t HT.out _)))
        go_wp2
        go_roundw
        case rel =>
          refine ⟨h + 1, j, by go_num, rfl, by omega, hjn, Lib.hid ⟨fun k hk hkh => HR.out.below (j := h) hm (by omega) (by rw [← HX.out]; exact HLT.out), HI.out.2⟩, hG.trans (Gr.grown _ _ _)⟩
        case measure => simp [intOf]; omega
      · have ht0 : decide (t < 0) = false := by simpa using h0
        have HLT := Lib.hid (fun q => h0 (htn.2 q))
        clear htn
        go_wp2
        go_quiet_grown ((go_at_call 51; refine Calls.gr_of (compare_at _ _ _ _ t HT.out _)))
        go_wp2
        go_roundw
        case rel =>
          refine ⟨i, h, rfl, rfl, by omega, by omega, Lib.hid ⟨HI.out.1, fun k hk hkh hl => HLT.out ?_⟩, hG.trans (Gr.grown _ _ _)⟩
          rw [HX.out]
          exact HR.out.below hk hkh hl
        case measure => simp [intOf]; omega
    · obtain rfl : i = j := by omega
      have hplc : plc l (p1, p2) = i := plc_of (by have := HL.out; omega) HI.out.1 HI.out.2
      have hmem := plc_mem HR.out (p1, p2)
      by_cases hin : i < n
      · have hil : i < l.length := by have := HL.out; omega
        obtain ⟨d1, d2⟩ := (HCB.out.below hG.below hbb).grown hbr hil
        obtain ⟨x, hxl⟩ : ∃ x, x = l[i] := ⟨_, rfl⟩
        rw [← hxl] at d1 d2
        have hfound : decide ((p1, p2) ∈ l) = decide (cf2 x (p1, p2) = 0) := by
          rw [decide_eq_decide, hmem, cf2_zero]
          constructor
          · rintro ⟨hp, e⟩
            rw [hxl, ← e]
            simp only [hplc]
          · intro e
            simp only [hplc]
            exact ⟨hil, by rw [← hxl, e]⟩
        have HF := Lib.hid hfound
        have HP := Lib.hid hplc
        clear hxl hplc hmem hfound
        obtain ⟨x1, x2⟩ := x
        obtain ⟨t, ht⟩ : ∃ t, t = cf2 (x1, x2) (p1, p2) := ⟨_, rfl⟩
        rw [← ht] at HF
        have HT := Lib.hid ht
        clear ht
        have q1 : (i : Int) < (n : Int) := by omega
        go_wp2
        go_quiet_grown ((go_at_call 51; refine Calls.gr_of (compare_at _ _ _ _ t HT.out _)))
        go_wp2
        go_ret2
        refine ⟨?_, hG0.trans (hG.trans (Gr.grown _ _ _))⟩
        rw [HP.out, HF.out]
        by_cases e : t = 0 <;> simp [e]
      · have hfound : decide ((p1, p2) ∈ l) = false := by
          rw [decide_eq_false_iff_not, hmem]
          rintro ⟨hp, _⟩
          rw [hplc] at hp
          have := HL.out
          omega
        have HF := Lib.hid hfound
        have HP := Lib.hid hplc
        clear hplc hmem hfound
        have hg0 : decide ((i : Int) < (n : Int)) = false := by simp; omega
        go_wp2
        clear k1 k2 hmix
        go_quiet (fail)
        go_wp2
        go_ret2
        refine ⟨?_, hG0.trans (hG.trans (Gr.drewN _ _))⟩
        rw [HP.out, HF.out]
        rfl
set_option maxRecDepth 100000 in
set_option maxHeartbeats 1000000 in
theorem search_none (o : Option Addr) (c : Nat) (w : World) (p1 p2 : Int) :
    Calls Try.prog 70 #[.slice o 0 c, PV p1 p2, .func (.func 51) #[] #[]] w fun e w' => e = .returned (.tuple #[.int .i64 0, .bool false]) ∧ Gr w w' := by
  go_enter Try.func70, Try.ntmps70
  go_wp2
  obtain ⟨wb, hwb⟩ : ∃ wb, wb = w.alloc (.cells #[.int .u64 p1, .int .u64 p2] 36) := ⟨_, rfl⟩
  have hG0 : Gr w wb := by rw [hwb]; exact Gr.alloc _ _
  rw [← hwb]
  clear hwb
  go_loopw [9, 10] (fun a c wr => a = .int .i64 0 ∧ c = .int .i64 0 ∧ wr = wb) (fun a c _ => 0)
  case atStart => exact ⟨rfl, rfl, rfl⟩
  case round =>
    obtain ⟨rfl, rfl, rfl⟩ := hrel
    go_wp2
    go_quiet (fail)
    go_wp2
    go_ret2
    exact ⟨rfl, hG0.trans (Gr.drewN _ _)⟩
theorem search_any (v : Value) (l : List Pr) (w : World) (hs : SegP w v l) (hn : l.length ≤ 1048576) (hr : Run l) (p1 p2 : Int) :
    Calls Try.prog 70 #[v, PV p1 p2, .func (.func 51) #[] #[]] w fun e w' => e = .returned (.tuple #[.int .i64 (plc l (p1, p2) : Nat), .bool (decide ((p1, p2) ∈ l))]) ∧ Gr w w' := by
  obtain ⟨o, c, rfl, _, _, h⟩ := hs.shape
  rcases h with rfl | ⟨b, f, rfl, hb, hc⟩
  · exact (search_none o c w p1 p2).mono fun _ _ h => ⟨by rw [h.1]; simp [plc], h.2⟩
  · exact search_some b f _ c l w rfl hn hb hc hr p1 p2
set_option maxRecDepth 100000 in
set_option maxHeartbeats 1000000 in
theorem place_any (v : Value) (l : List Pr) (w : World) (hs : SegP w v l) (hn : l.length ≤ 1048576) (hr : Run l) (p1 p2 : Int) :
    Calls Try.prog 61 #[v, PV p1 p2] w fun e w' => e = .returned (.int .i64 (plc l (p1, p2) : Nat)) ∧ Gr w w' := by
  have HS := Lib.hid hs
  have HR := Lib.hid hr
  clear hs hr
  go_enter Try.func61, Try.ntmps61
  go_wp2_with fail
  refine (search_any _ l _ (HS.out.alloc _) hn HR.out p1 p2).mono ?_
  rintro e w1 ⟨rfl, h1⟩
  go_wp2
  go_ret
  exact ⟨rfl, (Gr.alloc _ _).trans h1⟩
/-- Whether a run has a pair. -/
def hasP (l : List Pr) (p : Pr) : Bool := decide ((Run l ∧ l.length ≤ 1048576) ∧ p ∈ l)
theorem ckP_yes {l : List Pr} (h : Run l ∧ l.length ≤ 1048576) : ckP l = 0 := if_pos h
theorem ckP_no {l : List Pr} (h : ¬ (Run l ∧ l.length ≤ 1048576)) : ckP l = 130 := if_neg h
set_option maxRecDepth 100000 in
set_option maxHeartbeats 2000000 in
theorem has_any (v : Value) (l : List Pr) (w : World) (hs : SegP w v l) (p1 p2 : Int) :
    Calls Try.prog 45 #[v, PV p1 p2] w fun e w' => e = .returned (.bool (hasP l (p1, p2))) ∧ Gr w w' := by
  obtain ⟨o, c, rfl, _, _, hsh⟩ := hs.shape
  obtain ⟨n, hn⟩ : ∃ n, n = l.length := ⟨_, rfl⟩
  rw [← hn] at hs ⊢
  have HN := Lib.hid hn
  have HS := Lib.hid hs
  have HSH := Lib.hid hsh
  clear hs hsh hn
  by_cases hck : Run l ∧ l.length ≤ 1048576
  · have hmem0 : ∀ k, k = plc l (p1, p2) → ((p1, p2) ∈ l ↔ ∃ hp : k < l.length, l[k] = (p1, p2)) := fun k hk => by subst hk; exact plc_mem hck.1 (p1, p2)
    have hp0 := plc_le l (p1, p2)
    have hn20 : n ≤ 1048576 := by have := HN.out; omega
    have HR := Lib.hid hck.1
    have hv : hasP l (p1, p2) = decide ((p1, p2) ∈ l) := by simp [hasP, hck.1, hck.2]
    have hc0 := ckP_yes hck
    obtain ⟨k, hk⟩ : ∃ k, k = plc l (p1, p2) := ⟨_, rfl⟩
    have HK := Lib.hid hk
    rw [← hk] at hp0
    have hmem := hmem0 k hk
    have HV := Lib.hid hv
    have HM := Lib.hid hmem
    have HC0 := Lib.hid hc0
    clear hck hmem0 hmem hv hc0 hk
    go_enter Try.func45, Try.ntmps45
    go_wp2_with fail
    refine (check_any _ l _ (HS.out.alloc _)).mono ?_
    rw [HC0.out]
    rintro e w1 ⟨rfl, g1⟩
    have bk : Blk w1 w.heap.size #[.int .u64 p1, .int .u64 p2] 36 := (Blk.new _ _ _).later g1.below
    have G1 : Gr w w1 := (Gr.alloc _ _).trans g1
    have c0 := bk.cell 0
    have c1 := bk.cell 1
    have hbs := bk.lt
    simp only [List.getElem?_toArray, List.getElem?_cons_zero, List.getElem?_cons_succ] at c0 c1
    go_wp2_with fail
    refine (place_any _ l _ (HS.out.later G1.below) (by have := HN.out; omega) HR.out p1 p2).mono ?_
    rw [← HK.out]
    rintro e w2 ⟨rfl, g2⟩
    have bk2 := bk.later g2.below
    have G2 := G1.trans g2
    have HB2 := Lib.hid bk2
    clear c0 c1 hbs bk bk2 g1 G1 g2
    have c0 := HB2.out.cell 0
    have c1 := HB2.out.cell 1
    have hbs := HB2.out.lt
    simp only [List.getElem?_toArray, List.getElem?_cons_zero, List.getElem?_cons_succ] at c0 c1
    by_cases hkn : k < n
    · have hkl : k < l.length := by have := HN.out; omega
      obtain ⟨b, f, rfl, hb, hcells⟩ := HSH.out.resolve_left (fun e => by rw [e] at hkl; simp at hkl)
      obtain ⟨d1, d2⟩ := (hcells.below G2.below hb) k hkl
      obtain ⟨x, hx⟩ : ∃ x, x = l[k] := ⟨_, rfl⟩
      rw [← hx] at d1 d2
      have hfound : decide ((p1, p2) ∈ l) = decide (x = (p1, p2)) := by
        rw [decide_eq_decide, HM.out, hx]
        exact ⟨fun ⟨_, e⟩ => e, fun e => ⟨hkl, e⟩⟩
      have HF := Lib.hid hfound
      clear hx hfound hcells
      obtain ⟨x1, x2⟩ := x
      simp only at d1 d2
      have q1 : (k : Int) < (n : Int) := by omega
      by_cases h1 : x1 = p1
      · by_cases h2 : x2 = p2
        · have t1 : (x1 == p1) = true := by simpa using h1
          have t2 : (x2 == p2) = true := by simpa using h2
          have hq : hasP l (p1, p2) = true := by rw [HV.out, HF.out]; simp [h1, h2]
          have HQ := Lib.hid hq
          clear h1 h2 hq
          go_wp2
          go_quiet (fail)
          go_wp2
          go_ret
          rw [HQ.out]
          exact ⟨rfl, G2.trans (Gr.drewN _ _)⟩
        · have t1 : (x1 == p1) = true := by simpa using h1
          have t2 : (x2 == p2) = false := by simpa using h2
          have hq : hasP l (p1, p2) = false := by rw [HV.out, HF.out]; simp [h2]
          have HQ := Lib.hid hq
          clear h1 h2 hq
          go_wp2
          go_quiet (fail)
          go_wp2
          go_ret
          rw [HQ.out]
          exact ⟨rfl, G2.trans (Gr.drewN _ _)⟩
      · have t1 : (x1 == p1) = false := by simpa using h1
        have hq : hasP l (p1, p2) = false := by rw [HV.out, HF.out]; simp [h1]
        have HQ := Lib.hid hq
        clear h1 hq
        go_wp2
        go_quiet (fail)
        go_wp2
        go_ret
        rw [HQ.out]
        exact ⟨rfl, G2.trans (Gr.drewN _ _)⟩
    · have hq : hasP l (p1, p2) = false := by
        rw [HV.out, decide_eq_false_iff_not, HM.out]
        rintro ⟨h, _⟩
        exact hkn (by rw [HN.out]; exact h)
      have HQ := Lib.hid hq
      have hg0 : decide ((k : Int) < (n : Int)) = false := by simp; omega
      clear hq
      go_wp2
      go_quiet (fail)
      go_wp2
      go_ret
      rw [HQ.out]
      exact ⟨rfl, G2.trans (Gr.drewN _ _)⟩
  · have hv : hasP l (p1, p2) = false := by simp only [hasP, decide_eq_false_iff_not]; exact fun h => hck h.1
    have HC0 := Lib.hid (ckP_no hck)
    rw [hv]
    clear hck hv
    go_enter Try.func45, Try.ntmps45
    go_wp2_with fail
    refine (check_any _ l _ (HS.out.alloc _)).mono ?_
    rw [HC0.out]
    rintro e w1 ⟨rfl, g1⟩
    go_wp2
    go_ret
    exact ⟨rfl, (Gr.alloc _ _).trans g1⟩
end Go.Proofs.Ytcapmhmlipmciaa

