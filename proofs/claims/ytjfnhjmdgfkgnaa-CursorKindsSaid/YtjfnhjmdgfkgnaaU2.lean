/- trie.rises, leavesOf and chained. -/
import Derived.Test.YtjfnhjmdgfkgnaaU0
import Derived.Test.YtjfnhjmdgfkgnaaN13
namespace Go.Proofs.Kit
open Go.RowKit
theorem Rises.at {l : List Int} (h : Rises l) {i j : Nat} (hi : i < l.length) (hj : j < l.length) (hij : i < j) : l[i] < l[j] := List.pairwise_iff_getElem.1 h i j hi hj hij
theorem rises_take_succ {l : List Int} {k : Nat} (hk : k < l.length) (h1 : 1 ≤ k) (h : Rises (l.take k)) (hl : (l[k - 1]'(by omega)) < l[k]) : Rises (l.take (k + 1)) := by
  rw [List.take_succ_eq_append_getElem hk]
  unfold Rises
  rw [List.pairwise_append]
  refine ⟨h, by simp, fun x hx y hy => ?_⟩
  obtain rfl : y = l[k] := by simpa using hy
  obtain ⟨i, hi, rfl⟩ := List.getElem_of_mem hx
  rw [List.length_take] at hi
  rw [List.getElem_take]
  by_cases e : i = k - 1
  · subst e; exact hl
  · have := h.at (i := i) (j := k - 1) (by rw [List.length_take]; omega) (by rw [List.length_take]; omega) (by omega)
    rw [List.getElem_take, List.getElem_take] at this
    omega
theorem Gr.cell {w w' : World} (h : Gr w w') {p : Addr} (hp : p.block < w.heap.size) : w'.cell? p = w.cell? p := h.below.cell hp
end Go.Proofs.Kit
namespace Go.Proofs.Ytjfnhjmdgfkgnaa
open Go.RowKit Go.Proofs.Kit

set_option maxRecDepth 100000 in
set_option maxHeartbeats 1000000 in
theorem rises_any (v : Value) (l : List Int) (w : World) (hs : Seg .u64 w v l) :
    Calls Try.prog 87 #[v] w fun e w' => e = .returned (.bool (decide (Rises l))) ∧ Gr w w' := by
  obtain ⟨o, c, rfl, hc, hm, a⟩ := hs.shape
  have h63 := hs.1
  obtain ⟨n, hn⟩ : ∃ n, n = l.length := ⟨_, rfl⟩
  rw [← hn] at h63 ⊢
  have HN := Lib.hid hn
  have HA := Lib.hid a
  clear hn a hs hc
  go_enter Try.func87, Try.ntmps87
  go_wp2
  go_loopw [3] (fun i wr => ∃ k : Nat, (k + 1 ≤ n ∨ k = 0) ∧ i = .int .i64 ((k : Int) + 1) ∧ Hid (Rises (l.take (k + 1))) ∧ Gr w wr) (fun i _ => n - (intOf i).toNat)
  case atStart =>
    refine ⟨0, .inr rfl, rfl, Lib.hid ?_, Gr.refl _⟩
    cases l <;> simp [Rises]
  case round =>
    obtain ⟨k, hk, rfl, hp, hB⟩ := hrel
    by_cases hlt : k + 1 < n
    · have hk1 : k + 1 < l.length := by have := HN.out; omega
      obtain ⟨b, f, rfl, hbl, hcells⟩ := HA.out.resolve_left (fun e => by rw [e] at hk1; simp at hk1)
      have d1 := (hB.cell (p := ⟨b, f + k, none⟩) hbl).trans (hcells k (by omega))
      have d2 := (hB.cell (p := ⟨b, f + (k + 1), none⟩) hbl).trans (hcells (k + 1) hk1)
      obtain ⟨x, hx'⟩ : ∃ x, x = l[k] := ⟨_, rfl⟩
      obtain ⟨y, hy'⟩ : ∃ y, y = l[k + 1] := ⟨_, rfl⟩
      rw [← hx'] at d1
      rw [← hy'] at d2
      have HX := Lib.hid hx'
      have HY := Lib.hid hy'
      clear hx' hy' hcells
      have q1 : IntKind.i64.wrap (k : Int) = (k : Int) := by rw [IntKind.wrap_i64]; omega
      have q2 : (k : Int) + 1 < (n : Int) := by omega
      have q3 : (k : Int) < (n : Int) := by omega
      have q4 : (0 : Int) ≤ (k : Int) + 1 := by omega
      have q5 : ((k : Int) + 1).toNat = k + 1 := by omega
      by_cases h0 : x < y
      · have ht0 : decide (y ≤ x) = false := by simp; omega
        have HLT := Lib.hid h0
        clear h0
        go_wp2
        go_quiet (fail)
        go_wp2
        go_roundw
        case rel =>
          refine ⟨k + 1, .inl (by omega), by go_num, Lib.hid ?_, hB.trans (Gr.drewN _ _)⟩
          refine rises_take_succ hk1 (by omega) hp.out ?_
          have e1 : l[k + 1 - 1]'(by omega) = x := HX.out.symm
          rw [e1, ← HY.out]
          exact HLT.out
        case measure => simp [intOf]; omega
      · have ht0 : decide (y ≤ x) = true := by simp; omega
        have HLT := Lib.hid h0
        clear h0
        go_wp2
        go_quiet (fail)
        go_wp2
        go_ret
        refine ⟨?_, hB.trans (Gr.drewN _ _)⟩
        have : ¬ Rises l := by
          intro hr
          have h1 := hr.at (i := k) (j := k + 1) (by omega) hk1 (by omega)
          rw [← HX.out, ← HY.out] at h1
          have := HLT.out
          omega
        simp [this]
    · go_wp2
      go_ret
      have : Rises l := by
        have := hp.out
        rwa [List.take_of_length_le (by have := HN.out; omega)] at this
      simp only [this, decide_true]
      exact ⟨rfl, hB⟩

set_option maxRecDepth 100000 in
set_option maxHeartbeats 1000000 in
theorem leaves_any (vb : Value) (b off n c f t : Nat) (k : Int) (w : World) (h1 : f < t) (h2 : t ≤ n) (h3 : n ≤ c) (_ : c ≤ 9223372036854775807) :
    Calls Try.prog 119 #[.agg #[vb, .slice (some ⟨b, off, none⟩) n c], BV k (f : Int) (t : Int)] w fun e w' => e = .returned (.slice (some ⟨b, off + f, none⟩) (t - f) (t - f)) ∧ Gr w w' := by
  have i1 : (f : Int) ≤ (t : Int) := by omega
  have i2 : t ≤ c := by omega
  go_enter Try.func119, Try.ntmps119
  go_wp2
  go_ret
  exact ⟨rfl, (Gr.alloc _ _).trans (Gr.alloc _ _)⟩

set_option maxRecDepth 100000 in
set_option maxHeartbeats 4000000 in
theorem chained_any (vb vl : Value) (bs : List Br) (n : Nat) (o : Option Addr) (cl : Nat) (w : World) (hb : SegR w vb bs) (hl : vl = .slice o n cl) (hm : bs.length ≤ 1000000000) :
    Calls Try.prog 85 #[.agg #[vb, vl]] w fun e w' => e = .returned (.bool (decide (Chd n bs))) ∧ Gr w w' := by
  subst hl
  obtain ⟨ob, cb, rfl, hc, hcm, ha⟩ := hb.shape
  obtain ⟨m, hml⟩ : ∃ m, m = bs.length := ⟨_, rfl⟩
  rw [← hml] at hm hc ⊢
  obtain ⟨R, hR⟩ : ∃ R, R = decide (Chd n bs) := ⟨_, rfl⟩
  rw [← hR]
  have HR := Lib.hid hR
  have HM := Lib.hid hml
  have HA := Lib.hid ha
  clear hml ha hb hR
  have hmix := mixed
  go_enter Try.func85, Try.ntmps85
  go_wp2
  have B0 : Blk (w.alloc (.cells #[.slice ob m cb, .slice o n cl] 25)) w.heap.size #[.slice ob m cb, .slice o n cl] 25 := Blk.new _ _ _
  have HB0 := Lib.hid B0
  clear B0
  go_loopw [3, 9] (fun e i wr => ∃ k : Nat, k ≤ m ∧ i = .int .i64 (k : Int) ∧ e = .int .i64 (endAt bs k) ∧ Hid (∀ j, j < k → Lnk n bs j) ∧ Gr (w.alloc (.cells #[.slice ob m cb, .slice o n cl] 25)) wr) (fun _ i _ => m - (intOf i).toNat)
  case atStart => exact ⟨0, by omega, rfl, rfl, Lib.hid (by simp), Gr.refl _⟩
  case round =>
    obtain ⟨k, hk, rfl, rfl, HJ, hG⟩ := hrel
    have b0 := HB0.out.later hG.below
    have hb0 : w.heap.size < wr.heap.size := b0.lt
    obtain ⟨e1, e2⟩ : wr.cell? ⟨w.heap.size, 0, none⟩ = some (.slice ob m cb) ∧ wr.cell? ⟨w.heap.size, 1, none⟩ = some (.slice o n cl) := ⟨b0.cell 0, b0.cell 1⟩
    clear b0
    by_cases hlt : k < m
    · have hk1 : k < bs.length := by have := HM.out; omega
      obtain ⟨b, f, rfl, hbl, hcells⟩ := HA.out.resolve_left (fun e => by rw [e] at hk1; simp at hk1)
      have hbr : b < wr.heap.size := by have := hG.below.size; simp at this; omega
      have hG0 : Gr w wr := (Gr.alloc _ _).trans hG
      have hcr := hcells.below hG0.below hbl
      obtain ⟨d1, d2, d3⟩ := hcr k hk1
      have eK := getD_of hk1
      have eL : Lnk n bs k ↔ (0 < k → (bs.getD (k - 1) (0, 0, 0)).1 < (bs.getD k (0, 0, 0)).1) ∧ (bs.getD k (0, 0, 0)).2.1 = endAt bs k ∧ (bs.getD k (0, 0, 0)).2.1 < (bs.getD k (0, 0, 0)).2.2 ∧ (bs.getD k (0, 0, 0)).2.2 ≤ n := Iff.rfl
      have eN : endAt bs (k + 1) = (bs.getD k (0, 0, 0)).2.2 := rfl
      rw [eK] at eL eN
      obtain ⟨q, hq⟩ : ∃ q, q = k - 1 := ⟨_, rfl⟩
      rw [← hq] at eL
      have d4 : 0 < k → wr.cell? ⟨b, f + q * 3, none⟩ = some (.int .u64 (bs.getD q (0, 0, 0)).1) := fun h0 => by
        have := (hcr q (by omega)).1
        rwa [getD_of (show q < bs.length by omega)]
      obtain ⟨p1, hp1⟩ : ∃ p1, p1 = (bs.getD q (0, 0, 0)).1 := ⟨_, rfl⟩
      rw [← hp1] at eL d4
      obtain ⟨x, hx⟩ : ∃ x, x = bs[k] := ⟨_, rfl⟩
      rw [← hx] at eL eN d1 d2 d3
      obtain ⟨x1, x2, x3⟩ := x
      simp only at eL eN d1 d2 d3
      obtain ⟨E, hE⟩ : ∃ E, E = endAt bs k := ⟨_, rfl⟩
      rw [← hE] at eL ⊢
      have hNO : ¬ Lnk n bs k → R = false := fun h => by
        rw [HR.out, decide_eq_false_iff_not]
        exact fun hc => h (hc.1 k hk1)
      have HL := Lib.hid eL
      have HN := Lib.hid eN
      have HNO := Lib.hid hNO
      clear eL eN hNO hx hp1 hE eK hcr hcells
      have g1 : (k : Int) < (m : Int) := by omega
      have hq' : 0 < k → IntKind.i64.wrap ((k : Int) - 1) = (q : Int) := fun h0 => by rw [IntKind.wrap_i64]; omega
      have hq2 : 0 < k → (k : Int) - 1 = (q : Int) ∧ q < m := fun h0 => by omega
      clear hq
      have hT : ((x2 != E) = true ∧ ¬ Lnk n bs k) ∨ ((x2 != E) = false ∧ decide (x3 ≤ x2) = true ∧ ¬ Lnk n bs k) ∨ ((x2 != E) = false ∧ decide (x3 ≤ x2) = false ∧ decide ((n : Int) < x3) = true ∧ ¬ Lnk n bs k) ∨
          ((x2 != E) = false ∧ decide (x3 ≤ x2) = false ∧ decide ((n : Int) < x3) = false ∧ ((0 < k → p1 < x1) → Lnk n bs k)) := by
        have := HL.out
        by_cases c2 : x2 = E
        · by_cases c3 : x3 ≤ x2
          · exact .inr (.inl ⟨by simpa using c2, by simpa using c3, by rw [this]; omega⟩)
          · by_cases c4 : (n : Int) < x3
            · exact .inr (.inr (.inl ⟨by simpa using c2, by simp; omega, by simpa using c4, by rw [this]; omega⟩))
            · exact .inr (.inr (.inr ⟨by simpa using c2, by simp; omega, by simp; omega, by rw [this]; omega⟩))
        · exact .inl ⟨by simpa using c2, by rw [this]; omega⟩
      by_cases h0 : 0 < k
      · have d4 := d4 h0
        have q1 := hq' h0
        obtain ⟨q2, q3⟩ := hq2 h0
        have q4 : (q : Int) < (m : Int) := by omega
        have hg : decide (0 < k) = true := by simpa using h0
        clear hq' hq2 q2
        by_cases c1 : x1 ≤ p1
        · have h1 : decide (x1 ≤ p1) = true := by simpa using c1
          have HF := Lib.hid (HNO.out (by rw [HL.out]; intro h; have := h.1 h0; omega))
          clear hT c1
          go_wp2
          go_quiet (fail)
          go_wp2
          go_ret
          exact ⟨by rw [HF.out]; rfl, hG0.trans ((Gr.alloc _ _).trans (Gr.drewN _ _))⟩
        · have h1 : decide (x1 ≤ p1) = false := by simp; omega
          have HP := Lib.hid (show p1 < x1 by omega)
          clear c1
          rcases hT with ⟨t1, hF⟩ | ⟨t1, t2, hF⟩ | ⟨t1, t2, t3, hF⟩ | ⟨t1, t2, t3, hY⟩
          · have HF := Lib.hid (HNO.out hF)
            clear hF
            go_wp2
            go_quiet (fail)
            go_wp2
            go_ret
            exact ⟨by rw [HF.out]; rfl, hG0.trans ((Gr.alloc _ _).trans (Gr.drewN _ _))⟩
          · have HF := Lib.hid (HNO.out hF)
            clear hF
            go_wp2
            go_quiet (fail)
            go_wp2
            go_ret
            exact ⟨by rw [HF.out]; rfl, hG0.trans ((Gr.alloc _ _).trans (Gr.drewN _ _))⟩
          · have HF := Lib.hid (HNO.out hF)
            clear hF
            go_wp2
            go_quiet (fail)
            go_wp2
            go_ret
            exact ⟨by rw [HF.out]; rfl, hG0.trans ((Gr.alloc _ _).trans (Gr.drewN _ _))⟩
          · have HF := Lib.hid (hY (fun _ => HP.out))
            clear hY
            go_wp2
            go_quiet (fail)
            go_wp2
            go_roundw
            case rel =>
              refine ⟨k + 1, by omega, by go_num, by rw [HN.out], Lib.hid (fun j hj => ?_), hG.trans ((Gr.alloc _ _).trans (Gr.drewN _ _))⟩
              by_cases e : j = k
              · subst e; exact HF.out
              · exact HJ.out j (by omega)
            case measure => simp [intOf]; omega
      · have hg : decide (0 < k) = false := by simpa using h0
        clear hq' hq2 d4
        rcases hT with ⟨t1, hF⟩ | ⟨t1, t2, hF⟩ | ⟨t1, t2, t3, hF⟩ | ⟨t1, t2, t3, hY⟩
        · have HF := Lib.hid (HNO.out hF)
          clear hF
          go_wp2
          go_quiet (fail)
          go_wp2
          go_ret
          exact ⟨by rw [HF.out]; rfl, hG0.trans ((Gr.alloc _ _).trans (Gr.drewN _ _))⟩
        · have HF := Lib.hid (HNO.out hF)
          clear hF
          go_wp2
          go_quiet (fail)
          go_wp2
          go_ret
          exact ⟨by rw [HF.out]; rfl, hG0.trans ((Gr.alloc _ _).trans (Gr.drewN _ _))⟩
        · have HF := Lib.hid (HNO.out hF)
          clear hF
          go_wp2
          go_quiet (fail)
          go_wp2
          go_ret
          exact ⟨by rw [HF.out]; rfl, hG0.trans ((Gr.alloc _ _).trans (Gr.drewN _ _))⟩
        · have HF := Lib.hid (hY (fun h => (h0 h).elim))
          clear hY
          go_wp2
          go_quiet (fail)
          go_wp2
          go_roundw
          case rel =>
            refine ⟨k + 1, by omega, by go_num, by rw [HN.out], Lib.hid (fun j hj => ?_), hG.trans ((Gr.alloc _ _).trans (Gr.drewN _ _))⟩
            by_cases e : j = k
            · subst e; exact HF.out
            · exact HJ.out j (by omega)
          case measure => simp [intOf]; omega
    · have hkm : k = m := by omega
      subst hkm
      clear hlt hk
      have hE : R = decide (endAt bs k = (n : Int)) := by
        rw [HR.out, decide_eq_decide]
        unfold Chd
        have h1 := HM.out
        constructor
        · intro h; rw [h1]; exact h.2
        · intro h; exact ⟨fun i hi => HJ.out i (by omega), by rw [← h1]; exact h⟩
      have HE := Lib.hid hE
      clear hE
      go_wp2
      go_ret
      exact ⟨by rw [HE.out]; rfl, (Gr.alloc _ _).trans hG⟩
end Go.Proofs.Ytjfnhjmdgfkgnaa

