import Derived.Test.YtcapmhmlipmciaaW3
import Derived.Test.YtcapmhmlipmciaaN13
import Derived.Test.YtcapmhmlipmciaaW5
import Derived.Test.YtcapmhmlipmciaaN21
import Derived.Deep.RegionHeld3
/- spoil of stage 11's laws: it writes where the tiers' own rows lie, and nowhere else. -/
namespace Go.Proofs.Kit
open Go.RowKit
theorem flat_poke : ∀ (l : List Pr) (i : Nat) (h : i < l.length) (y : Int), flat (l.set i (y, l[i].2)) = (flat l).set (i * 2) (.int .u64 y)
  | p :: t, 0, _, y => by simp [flat]
  | p :: t, i + 1, h, y => by
    have := flat_poke t i (by simpa using h) y
    rw [List.set_cons_succ, flat, flat, show (i + 1) * 2 = i * 2 + 1 + 1 by omega]
    simp [this]
/-- A number of a row of pairs is written over: all rows of pairs stay such. -/
theorem OwnP.poke {t : TypeId} {B g : Nat} {w : World} {v : Value} {a : List Pr} {cur : Array Value} (h : OwnP t B w v a) (hb : Blk w g cur t) (q : Nat) (y : Int) : ∃ a', OwnP t B (w.setCell ⟨g, q * 2, none⟩ (.int .u64 y)) v a' := by
  rcases h.2.2 with ⟨rfl, _⟩ | ⟨g', cap, cur', rfl, hB, hb', h1, h2, h3, h4⟩
  · exact ⟨[], OwnP.nil _ _ _⟩
  · have hb'' : Blk w g' cur' t := hb'
    by_cases e : g' = g
    · subst e
      have hs := hb''.set (q * 2) (.int .u64 y)
      by_cases hq : q < a.length
      · refine ⟨a.set q (y, a[q].2), ?_⟩
        have := OwnP.of_blk (l := a.set q (y, a[q].2)) (cap := cap) hB hs (by simpa using h1) (by unfold maxLen at h2; omega) (by simpa using h.1) (by simpa using h3) (by
          rw [flat_poke a q hq, List.length_set, ← h4]
          simp only [Array.toList_setIfInBounds, List.take_set])
        simpa using this
      · refine ⟨a, OwnP.of_blk hB hs h1 (by unfold maxLen at h2; omega) h.1 (by simpa using h3) ?_⟩
        rw [← h4]
        simp only [Array.toList_setIfInBounds, List.take_set]
        rw [List.set_eq_of_length_le]
        simp
        omega
    · exact ⟨a, h.same fun k hk => by
        simp [Value.ownBlock] at hk
        subst hk
        exact Below.heap_setCell _ _ _ _ e⟩
/-- What holds while tiers are written over. -/
structure SP (tp tt : TypeId) (B : Nat) (v : Value) (l : List Ti) (w X : World) : Prop where
  row : OwnE tiE tt B X v l
  each : ∀ i (h : i < l.length), (∃ a, OwnP tp B X (.slice l[i].ao l[i].an l[i].ac) a) ∧ ∃ b, OwnP tp B X (.slice l[i].bo l[i].bn l[i].bc) b
  low : Below B w X
theorem SP.gr {tp tt : TypeId} {B : Nat} {v : Value} {l : List Ti} {w X X' : World} (h : SP tp tt B v l w X) (hB : B ≤ w.heap.size) (hb : Gr X X') : SP tp tt B v l w X' :=
  ⟨h.row.later hb.below, fun i hi => ⟨let ⟨a, h1⟩ := (h.each i hi).1; ⟨a, h1.later hb.below⟩, let ⟨b, h2⟩ := (h.each i hi).2; ⟨b, h2.later hb.below⟩⟩, h.low.trans (hb.below.mono (Nat.le_trans hB h.low.size))⟩
theorem SP.store {tp tt : TypeId} {B g : Nat} {v : Value} {l : List Ti} {w X : World} {cur : Array Value} (h : SP tp tt B v l w X) (ht : tp ≠ tt) (hb : Blk X g cur tp) (hg : B ≤ g) (q : Nat) (y : Int) : SP tp tt B v l w (X.setCell ⟨g, q * 2, none⟩ (.int .u64 y)) :=
  ⟨h.row.other (h.row.ne_blk hb (Ne.symm ht)) _ _, fun i hi => ⟨let ⟨_, h1⟩ := (h.each i hi).1; h1.poke hb q y, let ⟨_, h2⟩ := (h.each i hi).2; h2.poke hb q y⟩, h.low.setCell hg _⟩
/-- A pair's first number of a row of the call's own. -/
theorem OwnP.fst {t : TypeId} {B : Nat} {w : World} {o : Option Addr} {n c q : Nat} {l : List Pr} (h : OwnP t B w (.slice o n c) l) (hq : q < n) : ∃ g y cur, o = some ⟨g, 0, none⟩ ∧ n ≤ c ∧ c ≤ 9223372036854775807 ∧ B ≤ g ∧ Blk w g cur t ∧ g < w.heap.size ∧ w.cell? ⟨g, q * 2, none⟩ = some (.int .u64 y) ∧ w.frozen? ⟨g, q * 2, none⟩ = false := by
  have hn := h.seg.len_n
  obtain ⟨g, cap, cur, e, h1, h2, h3, hB, hb, h4⟩ := h.blk (by omega)
  injection e with e1 e2 e3
  subst e1 e3
  have hf := (flat_get l q (by omega)).1
  rw [← h4, List.getElem?_take_of_lt (by omega)] at hf
  refine ⟨g, l[q].1, cur, rfl, hn.2.1, hn.2.2, hB, hb, hb.lt, ?_, hb.frozen _⟩
  rw [hb.cell]
  simpa using hf
end Go.Proofs.Kit
namespace Go.Proofs.Ytcapmhmlipmciaa
open Go.RowKit Go.Proofs.Kit
set_option maxRecDepth 100000 in
set_option maxHeartbeats 8000000 in
theorem spoil11_any (B : Nat) (v : Value) (L : List Tr) (w : World) (h : OwnT 36 38 B w v L) (hB : B ≤ w.heap.size) :
    Calls Try.prog 21 #[v] w fun e w' => e = .returned (.tuple #[]) ∧ Below B w w' := by
  obtain ⟨l, ot⟩ := h.open
  have hsp : SP 36 38 B v l w w := ⟨ot.own, fun i hi => ⟨⟨_, (ot.each i hi (by rw [← ot.len]; exact hi)).1⟩, ⟨_, (ot.each i hi (by rw [← ot.len]; exact hi)).2⟩⟩, Below.refl _ _⟩
  obtain ⟨o, c, rfl, hc, hm⟩ : ∃ o c, v = .slice o l.length c ∧ l.length ≤ c ∧ c ≤ 9223372036854775807 := by
    obtain ⟨o, c, e, h1, h2, _⟩ := ot.own.seg.shape
    exact ⟨o, c, e, h1, h2⟩
  obtain ⟨n, hn⟩ : ∃ n, n = l.length := ⟨_, rfl⟩
  rw [← hn] at hsp hc ⊢
  have HN := Lib.hid hn
  have HSP := Lib.hid hsp
  clear hsp hn h ot
  go_enter Try.func21, Try.ntmps21
  go_wp2
  go_loopw [8] (fun i wr => ∃ k : Nat, k ≤ n ∧ i = .int .i64 (k : Int) ∧ Hid (SP 36 38 B (.slice o n c) l w wr)) (fun i _ => n - (intOf i).toNat)
  case atStart => exact ⟨0, Nat.zero_le _, rfl, HSP⟩
  case round =>
    obtain ⟨k, hk, rfl, HI⟩ := hrel
    obtain ⟨wo, hwo⟩ : ∃ wo, wo = wr := ⟨_, rfl⟩
    subst hwo
    by_cases hlt : k < n
    · have hkl : k < l.length := by have := HN.out; omega
      obtain ⟨b, f, rfl, _, _, _, hbl, hcells⟩ := HI.out.row.seg.has hkl
      have d0 : wo.cell? ⟨b, f + k * 2, none⟩ = some (.slice l[k].ao l[k].an l[k].ac) := hcells k hkl 0 _ rfl
      have d1 : wo.cell? ⟨b, f + k * 2 + 1, none⟩ = some (.slice l[k].bo l[k].bn l[k].bc) := hcells k hkl 1 _ rfl
      have HE := Lib.hid (fun X (hX : SP 36 38 B (.slice (some ⟨b, f, none⟩) n c) l w X) => hX.each k hkl)
      obtain ⟨x, hx⟩ : ∃ x, x = l[k] := ⟨_, rfl⟩
      rw [← hx] at d0 d1 HE
      obtain ⟨ao, an, ac, bo, bn, bc⟩ := x
      simp only at d0 d1 HE
      have hI1 := HI.out.gr hB (Gr.alloc wo (.cells #[.slice ao an ac, .slice bo bn bc] 38))
      have hk1 := Blk.new wo #[.slice ao an ac, .slice bo bn bc] 38
      have HI1 := Lib.hid (And.intro hI1 hk1)
      clear hcells hx hI1 hk1
      go_wp2
      go_loopw [15] (fun i wq => ∃ q : Nat, q ≤ an ∧ i = .int .i64 (q : Int) ∧ Hid (SP 36 38 B (.slice (some ⟨b, f, none⟩) n c) l w wq ∧ Blk wq wo.heap.size #[.slice ao an ac, .slice bo bn bc] 38)) (fun i _ => an - (intOf i).toNat)
      case atStart => exact ⟨0, Nat.zero_le _, rfl, HI1⟩
      case round =>
        obtain ⟨q, hq, rfl, HQ⟩ := hrel
        have e0 := HQ.out.2.cell 0
        have e1 := HQ.out.2.cell 1
        have lq := HQ.out.2.lt
        simp only [List.getElem?_toArray, List.getElem?_cons_zero, List.getElem?_cons_succ] at e0 e1
        by_cases hlq : q < an
        · obtain ⟨a, ha⟩ := (HE.out _ HQ.out.1).1
          obtain ⟨g, y, cur, rfl, j1, j2, j3, j4, j5, j6, j7⟩ := ha.fst hlq
          have HQ2 := Lib.hid (fun y' => And.intro (HQ.out.1.store (by decide) j4 j3 q y') (HQ.out.2.other (p := ⟨g, q * 2, none⟩) (Blk.ne HQ.out.2 j4 (by decide)) (.int .u64 y')))
          clear ha j3 j4
          go_wp2
          go_roundw
          case rel => exact ⟨q + 1, by omega, by go_num, Lib.hid (HQ2.out _)⟩
          case measure => simp [intOf]; omega
        · go_wp2
          go_loopw [31] (fun i wq => ∃ q : Nat, q ≤ bn ∧ i = .int .i64 (q : Int) ∧ Hid (SP 36 38 B (.slice (some ⟨b, f, none⟩) n c) l w wq ∧ Blk wq wo.heap.size #[.slice ao an ac, .slice bo bn bc] 38)) (fun i _ => bn - (intOf i).toNat)
          case atStart => exact ⟨0, Nat.zero_le _, rfl, HQ⟩
          case round =>
            obtain ⟨q, hq, rfl, HQ⟩ := hrel
            have e0 := HQ.out.2.cell 0
            have e1 := HQ.out.2.cell 1
            have lq := HQ.out.2.lt
            simp only [List.getElem?_toArray, List.getElem?_cons_zero, List.getElem?_cons_succ] at e0 e1
            by_cases hlq : q < bn
            · obtain ⟨a, ha⟩ := (HE.out _ HQ.out.1).2
              obtain ⟨g, y, cur, rfl, j1, j2, j3, j4, j5, j6, j7⟩ := ha.fst hlq
              have HQ2 := Lib.hid (fun y' => And.intro (HQ.out.1.store (by decide) j4 j3 q y') (HQ.out.2.other (p := ⟨g, q * 2, none⟩) (Blk.ne HQ.out.2 j4 (by decide)) (.int .u64 y')))
              clear ha j3 j4
              go_wp2
              go_roundw
              case rel => exact ⟨q + 1, by omega, by go_num, Lib.hid (HQ2.out _)⟩
              case measure => simp [intOf]; omega
            · go_wp2
              go_roundw
              case rel => exact ⟨k + 1, by omega, by go_num, Lib.hid HQ.out.1⟩
              case measure => simp [intOf]; omega
    · go_wp2
      go_end0
      exact ⟨rfl, HI.out.low⟩
end Go.Proofs.Ytcapmhmlipmciaa


/- The reference: colanderref03.Same; colanderref11.One, Right. -/
namespace Go.Proofs.Ytcapmhmlipmciaa
open Go.RowKit Go.Proofs.Kit
theorem grN {w wr : World} (h : ∃ N, wr = w.drewN N) : Gr w wr := by
  obtain ⟨N, rfl⟩ := h
  exact Gr.drewN _ _
theorem drewT {w wr : World} {N : Nat} (h : ∃ N, wr = w.drewN N) : ∃ K, wr.drewN N = w.drewN K := by
  obtain ⟨M, rfl⟩ := h
  exact ⟨_, World.drewN_drewN _ _ _⟩
set_option maxRecDepth 100000 in
set_option maxHeartbeats 4000000 in
theorem dsameN_any (v1 v2 : Value) (l m : List Pr) (w : World) (h1 : SegP w v1 l) (h2 : SegP w v2 m) (r : Bool) (hr : r = decide (l = m)) :
    Calls Try.prog 40 #[v1, v2] w fun e w' => e = .returned (.bool r) ∧ ∃ N, w' = w.drewN N := by
  have hl1 := h1.1
  have hl2 := h2.1
  obtain ⟨o1, c1, rfl, hc1, hm1, _⟩ := h1.shape
  obtain ⟨o2, c2, rfl, hc2, hm2, _⟩ := h2.shape
  obtain ⟨n, hn⟩ : ∃ n, n = l.length := ⟨_, rfl⟩
  obtain ⟨k, hk⟩ : ∃ k, k = m.length := ⟨_, rfl⟩
  rw [← hn] at h1 hc1 hl1 ⊢
  rw [← hk] at h2 hc2 hl2 ⊢
  have HN := Lib.hid hn.symm
  have HM := Lib.hid hk.symm
  have HR := Lib.hid hr
  have HA := Lib.hid h1
  have HB := Lib.hid h2
  clear h1 h2 hn hk hr
  by_cases hnm : n = k
  · have t0 : ((n : Int) != (k : Int)) = false := by rw [hnm]; simp
    have HNM := Lib.hid hnm
    clear hnm
    go_enter Try.func40, Try.ntmps40
    go_wp2
    go_loopw [13] (fun i wr => ∃ q : Nat, q ≤ n ∧ i = .int .i64 (q : Int) ∧ Hid (l.take q = m.take q) ∧ Hid (∃ N, wr = w.drewN N)) (fun i _ => n - (intOf i).toNat)
    case atStart => exact ⟨0, Nat.zero_le _, rfl, Lib.hid (by simp), Lib.hid ⟨0, rfl⟩⟩
    case round =>
      obtain ⟨q, hq, rfl, HE, HG⟩ := hrel
      by_cases hlt : q < n
      · have hkl : q < l.length := by have := HN.out; omega
        have hkm : q < m.length := by have := HM.out; have := HNM.out; omega
        have hkm' : q < k := by have := HNM.out; omega
        obtain ⟨b, f, rfl, lb0, hx⟩ := (HA.out.later (grN HG.out).below).has hkl
        obtain ⟨b', f', rfl, lb1, hy⟩ := (HB.out.later (grN HG.out).below).has hkm
        obtain ⟨d0, d1⟩ := hx q hkl
        obtain ⟨d2, d3⟩ := hy q hkm
        have HTL := Lib.hid (List.take_succ_eq_append_getElem hkl)
        have HTM := Lib.hid (List.take_succ_eq_append_getElem hkm)
        obtain ⟨x, hx'⟩ : ∃ x, x = l[q] := ⟨_, rfl⟩
        obtain ⟨y, hy'⟩ : ∃ y, y = m[q] := ⟨_, rfl⟩
        rw [← hx'] at d0 d1 HTL
        rw [← hy'] at d2 d3 HTM
        have HX := Lib.hid hx'
        have HY := Lib.hid hy'
        obtain ⟨x1, x2⟩ := x
        obtain ⟨y1, y2⟩ := y
        simp only at d0 d1 d2 d3
        clear hx hy hx' hy'
        by_cases hxy : x1 = y1 ∧ x2 = y2
        · obtain ⟨hx1, hx2⟩ := hxy
          have HE2 : Hid (l.take (q + 1) = m.take (q + 1)) := Lib.hid (by rw [HTL.out, HTM.out, HE.out, hx1, hx2])
          subst hx1 hx2
          go_wp2
          go_quiet (fail)
          go_wp2
          go_roundw
          case rel => exact ⟨q + 1, by omega, by go_num, HE2, Lib.hid (drewT HG.out)⟩
          case measure => simp [intOf]; omega
        · have hno : r = false := by
            rw [HR.out]
            refine decide_eq_false fun e => hxy ?_
            have h := HX.out
            subst e
            rw [← HY.out] at h
            injection h with h1 h2
            exact ⟨h1, h2⟩
          subst hno
          have t1 : ((x1 == y1) && (x2 == y2)) = false := by
            rw [Bool.and_eq_false_iff]
            by_cases h1 : x1 = y1
            · exact .inr (by simp; exact fun h2 => hxy ⟨h1, h2⟩)
            · exact .inl (by simp; exact h1)
          by_cases h1 : x1 = y1
          · have h2 : ¬ x2 = y2 := fun h2 => hxy ⟨h1, h2⟩
            have t2 : (x1 == y1) = true := by simpa using h1
            have t3 : (x2 == y2) = false := by simpa using h2
            have t4 : (x1 != y1) = false := by simpa using h1
            have t5 : (x2 != y2) = true := by simpa using h2
            clear h1 h2 hxy
            go_wp2
            go_quiet (fail)
            go_wp2
            go_ret
            exact ⟨rfl, drewT HG.out⟩
          · have t2 : (x1 == y1) = false := by simpa using h1
            have t4 : (x1 != y1) = true := by simpa using h1
            clear h1 hxy
            go_wp2
            go_quiet (fail)
            go_wp2
            go_ret
            exact ⟨rfl, drewT HG.out⟩
      · have hyes : r = true := by
          rw [HR.out]
          refine decide_eq_true ?_
          have := HE.out
          rwa [List.take_of_length_le (by have := HN.out; omega), List.take_of_length_le (by have := HM.out; have := HNM.out; omega)] at this
        subst hyes
        go_wp2
        go_ret
        exact ⟨rfl, HG.out⟩
  · have t0 : ((n : Int) != (k : Int)) = true := by simp; omega
    have hno : r = false := by
      rw [HR.out]
      refine decide_eq_false fun e => hnm ?_
      have := HN.out
      have := HM.out
      rw [e] at *
      omega
    subst hno
    go_enter Try.func40, Try.ntmps40
    go_wp2
    go_ret
    exact ⟨rfl, 0, rfl⟩
theorem dsameP_any (v1 v2 : Value) (l m : List Pr) (w : World) (h1 : SegP w v1 l) (h2 : SegP w v2 m) (r : Bool) (hr : r = decide (l = m)) :
    Calls Try.prog 40 #[v1, v2] w fun e w' => e = .returned (.bool r) ∧ Gr w w' :=
  (dsameN_any v1 v2 l m w h1 h2 r hr).mono fun _ _ ⟨he, h⟩ => ⟨he, grN h⟩
theorem kept_zero (a b : List Pr) : (((a.filter fun x => decide (x ∈ b) == true).length : Int) == 0) = decide (∀ p ∈ a, p ∉ b) := by
  rw [Bool.eq_iff_iff, beq_iff_eq, decide_eq_true_eq]
  have h : (((a.filter fun x => decide (x ∈ b) == true).length : Nat) : Int) = 0 ↔ (a.filter fun x => decide (x ∈ b) == true) = [] := by
    rw [← List.length_eq_zero_iff]
    omega
  rw [h, List.filter_eq_nil_iff]
  simp
set_option maxRecDepth 100000 in
set_option maxHeartbeats 4000000 in
theorem one_any (x : Ti) (t : Tr) (w : World) (h : TR w x t) (hl : t.1.length ≤ 1000) (r : Bool) (hr : r = decide (oneT t)) :
    Calls Try.prog 29 #[.agg #[.slice x.ao x.an x.ac, .slice x.bo x.bn x.bc]] w fun e w' => e = .returned (.bool r) ∧ Below w.heap.size w w' := by
  obtain ⟨ao, an, ac, bo, bn, bc⟩ := x
  obtain ⟨b1, hb1⟩ : ∃ b1, b1 = decide (okP t.1) := ⟨_, rfl⟩
  obtain ⟨b2, hb2⟩ : ∃ b2, b2 = decide (okP t.2) := ⟨_, rfl⟩
  obtain ⟨b3, hb3⟩ : ∃ b3, b3 = decide (∀ p ∈ t.1, p ∉ t.2) := ⟨_, rfl⟩
  have hr' : r = (b1 && b2 && b3) := by rw [hr, hb1, hb2, hb3, ← Bool.decide_and, ← Bool.decide_and]; rfl
  have HA := Lib.hid h.a
  have HB := Lib.hid h.b
  simp only at HA HB
  have H1 := Lib.hid (fun W (hb : Below w.heap.size w W) => right_any _ t.1 W (HA.out.later hb))
  have H2 := Lib.hid (fun W (hb : Below w.heap.size w W) => right_any _ t.2 W (HB.out.later hb))
  have H3 := Lib.hid (fun W (hb : Below w.heap.size w W) => dkept_any _ t.1 _ t.2 true W (HA.out.later hb) hl (HB.out.later hb))
  have hz := kept_zero t.1 t.2
  rw [← hb3] at hz
  rw [← hb1] at H1
  rw [← hb2] at H2
  obtain ⟨F, hF⟩ : ∃ F, F = t.1.filter fun x => decide (x ∈ t.2) == true := ⟨_, rfl⟩
  rw [← hF] at hz H3
  have HZ := Lib.hid hz
  clear h hl hr hb1 hb2 hb3 hz hF
  go_enter Try.func29, Try.ntmps29
  go_wp2_with fail
  have k0 := Blk.new w #[.slice ao an ac, .slice bo bn bc] 38
  have G0 := Gr.alloc w (.cells #[.slice ao an ac, .slice bo bn bc] 38)
  refine (H1.out _ G0.below).mono ?_
  rintro e w1 ⟨rfl, g1⟩
  have k1 := k0.later g1.below
  have L1 := Lib.hid (G0.trans g1).below
  have e0 := k1.cell 0
  have e1 := k1.cell 1
  have l1 := k1.lt
  simp only [List.getElem?_toArray, List.getElem?_cons_zero, List.getElem?_cons_succ] at e0 e1
  have K1 := Lib.hid k1
  clear k0 G0 g1 k1 H1
  cases b1
  · subst hr'
    go_wp2
    go_ret
    exact ⟨rfl, L1.out⟩
  · go_wp2_with fail
    refine (H2.out _ L1.out).mono ?_
    rintro e w2 ⟨rfl, g2⟩
    have k2 := K1.out.later g2.below
    have L2 := Lib.hid (below_later L1.out g2.below)
    have e0 := k2.cell 0
    have e1 := k2.cell 1
    have l2 := k2.lt
    simp only [List.getElem?_toArray, List.getElem?_cons_zero, List.getElem?_cons_succ] at e0 e1
    clear g2 k2 H2 K1
    cases b2
    · subst hr'
      go_wp2
      go_ret
      exact ⟨rfl, L2.out⟩
    · simp only [Bool.true_and] at hr'
      subst hr'
      go_wp2_with fail
      refine (H3.out _ L2.out).mono ?_
      rintro e w3 ⟨v3, rfl, o3, b3⟩
      obtain ⟨o', c', rfl⟩ := o3.shape
      have L3 := Lib.hid (below_later L2.out b3)
      have hz := HZ.out
      obtain ⟨nf, hnf⟩ : ∃ nf, nf = F.length := ⟨_, rfl⟩
      rw [← hnf] at hz ⊢
      clear o3 b3 e0 e1 l2 hnf
      go_wp2
      go_ret
      exact ⟨rfl, L3.out⟩
set_option maxRecDepth 100000 in
set_option maxHeartbeats 4000000 in
theorem right11_any (v : Value) (L : List Tr) (w : World) (h : SegT w v L) (hS : SmT 1000 L) (r : Bool) (hr : r = decide (goodT L)) :
    Calls Try.prog 11 #[v] w fun e w' => e = .returned (.bool r) ∧ Below w.heap.size w w' := by
  have hl62 := h.len
  obtain ⟨o, c, rfl, hc, hm⟩ := h.shape
  obtain ⟨n, hn⟩ : ∃ n, n = L.length := ⟨_, rfl⟩
  rw [← hn] at h hc hl62 ⊢
  have HL := Lib.hid hn.symm
  have HA := Lib.hid h
  have HS := Lib.hid hS
  have HR := Lib.hid hr
  clear h hn hS hr
  go_enter Try.func11, Try.ntmps11
  go_wp2
  go_loopw [7] (fun i wr => ∃ k : Nat, k ≤ n ∧ i = .int .i64 (k : Int) ∧ Hid (∀ t ∈ L.take k, oneT t) ∧ Hid (Below w.heap.size w wr)) (fun i _ => n - (intOf i).toNat)
  case atStart => exact ⟨0, Nat.zero_le _, rfl, Lib.hid (by simp), Lib.hid (Below.refl _ _)⟩
  case round =>
    obtain ⟨k, hk, rfl, HO, HB⟩ := hrel
    by_cases hlt : k < n
    · have hkl : k < L.length := by have := HL.out; omega
      obtain ⟨b, f, x, rfl, _, lb0, d0, d1, hx⟩ := (HA.out.later HB.out).at hkl
      have hN := List.take_succ_eq_append_getElem hkl
      have hSt := HS.out _ (List.getElem_mem hkl)
      have htm := List.getElem_mem hkl
      obtain ⟨t, ht⟩ : ∃ t, t = L[k] := ⟨_, rfl⟩
      rw [← ht] at hx hN hSt htm
      obtain ⟨ao, an, ac, bo, bn, bc⟩ := x
      simp only at d0 d1
      have gA := Gr.alloc wr (.cells #[.slice ao an ac, .slice bo bn bc] 38)
      obtain ⟨b1, hb1⟩ : ∃ b1, b1 = decide (oneT t) := ⟨_, rfl⟩
      have HN := Lib.hid hN
      have HTM := Lib.hid htm
      have HLOW := Lib.hid (below_later HB.out gA.below)
      have HON := Lib.hid (one_any ⟨ao, an, ac, bo, bn, bc⟩ t (wr.alloc (.cells #[.slice ao an ac, .slice bo bn bc] 38)) (hx.later gA.below) hSt.1 b1 hb1)
      have HB1 := Lib.hid hb1
      clear hx hN hSt htm ht hb1 gA
      go_wp2_with fail
      refine HON.out.mono ?_
      rintro e w2 ⟨rfl, b2⟩
      have HLOW2 := Lib.hid (below_later HLOW.out b2)
      clear b2 d0 d1 lb0 HON
      cases b1
      · have hno : r = false := by
          rw [HR.out]
          refine decide_eq_false fun c => ?_
          have h1 := HB1.out
          rw [decide_eq_true (c.1 _ HTM.out)] at h1
          cases h1
        subst hno
        go_wp2
        go_ret
        exact ⟨rfl, HLOW2.out⟩
      · have HALL : Hid (∀ t ∈ L.take (k + 1), oneT t) := Lib.hid (by
          rw [HN.out]
          intro y hy
          rcases List.mem_append.1 hy with hy | hy
          · exact HO.out y hy
          · simp at hy
            rw [hy]
            exact of_decide_eq_true HB1.out.symm)
        go_wp2
        go_roundw
        case rel => exact ⟨k + 1, by omega, by go_num, HALL, HLOW2⟩
        case measure => simp [intOf]; omega
    · have hT : L.take k = L := List.take_of_length_le (by have := HL.out; omega)
      have hr : decide ((n : Int) ≤ 24) = r := by
        rw [HR.out]
        have h1 := HO.out
        rw [hT] at h1
        have h2 := HL.out
        by_cases c : n ≤ 24
        · rw [decide_eq_true (show (n : Int) ≤ 24 by omega), decide_eq_true ⟨h1, by omega⟩]
        · rw [decide_eq_false (show ¬ (n : Int) ≤ 24 by omega), decide_eq_false (fun d => c (by have := d.2; omega))]
      clear hT
      go_wp2
      go_ret
      exact ⟨rfl, HB.out⟩
end Go.Proofs.Ytcapmhmlipmciaa


/- The reference: colanderref11.Same. -/
namespace Go.Proofs.Ytcapmhmlipmciaa
open Go.RowKit Go.Proofs.Kit Go.Sort
theorem quietStep {P : Program} {ops : Array Oper} {C : World → Prop} {Q : Act → Prop} {a : Act} {o : Oper} {rest : List Oper}
    (h : ∀ Z K : Act → Prop, (Z = fun a => wpQuiet P ops C Q rest a) → (∀ a, Z a → K a) → if Region.wanted o (yielded ops a.tmps) then o.quiet P a C K else K (a.put o.dst undef)) : wpQuiet P ops C Q (o :: rest) a :=
  wpQuiet_step fun K hK => h _ K rfl hK
set_option maxRecDepth 100000 in
set_option maxHeartbeats 8000000 in
theorem esame_any (v1 v2 : Value) (L M : List Tr) (w : World) (h1 : SegT w v1 L) (h2 : SegT w v2 M) (r : Bool) (hr : r = decide (L = M)) :
    Calls Try.prog 14 #[v1, v2] w fun e w' => e = .returned (.bool r) ∧ Below w.heap.size w w' := by
  have hmix := mixed
  have hl1 := h1.len
  have hl2 := h2.len
  obtain ⟨o1, c1, rfl, hc1, hm1⟩ := h1.shape
  obtain ⟨o2, c2, rfl, hc2, hm2⟩ := h2.shape
  obtain ⟨n, hn⟩ : ∃ n, n = L.length := ⟨_, rfl⟩
  obtain ⟨m, hm⟩ : ∃ m, m = M.length := ⟨_, rfl⟩
  rw [← hn] at h1 hc1 hl1 ⊢
  rw [← hm] at h2 hc2 hl2 ⊢
  have HN := Lib.hid hn.symm
  have HM := Lib.hid hm.symm
  have HR := Lib.hid hr
  have HA := Lib.hid h1
  have HB := Lib.hid h2
  clear h1 h2 hn hm hr
  by_cases hnm : n = m
  · have t0 : ((n : Int) != (m : Int)) = false := by rw [hnm]; simp
    have HNM := Lib.hid hnm
    clear hnm
    go_enter Try.func14, Try.ntmps14
    go_wp2
    go_loopw [14] (fun i wr => ∃ k : Nat, k ≤ n ∧ i = .int .i64 (k : Int) ∧ Hid (L.take k = M.take k) ∧ Hid (Below w.heap.size w wr)) (fun i _ => n - (intOf i).toNat)
    case atStart => exact ⟨0, Nat.zero_le _, rfl, Lib.hid (by simp), Lib.hid (Below.refl _ _)⟩
    case round =>
      obtain ⟨k, hk, rfl, HE, HG⟩ := hrel
      by_cases hlt : k < n
      · have hkl : k < L.length := by have := HN.out; omega
        have hkm : k < M.length := by have := HM.out; have := HNM.out; omega
        have hkm' : k < m := by have := HNM.out; omega
        have hkm2 : (k : Int) < (m : Int) := by omega
        obtain ⟨b, f, x, rfl, _, lb0, d0, d1, hx⟩ := (HA.out.later HG.out).at hkl
        obtain ⟨b', f', y, rfl, _, lb1, d2, d3, hy⟩ := (HB.out.later HG.out).at hkm
        have HTL := Lib.hid (List.take_succ_eq_append_getElem hkl)
        have HTM := Lib.hid (List.take_succ_eq_append_getElem hkm)
        obtain ⟨t, ht⟩ : ∃ t, t = L[k] := ⟨_, rfl⟩
        obtain ⟨u, hu⟩ : ∃ u, u = M[k] := ⟨_, rfl⟩
        rw [← ht] at hx HTL
        rw [← hu] at hy HTM
        have HTE := Lib.hid ht
        have HUE := Lib.hid hu
        obtain ⟨t1, ht1⟩ : ∃ t1, t1 = decide (t.1 = u.1) := ⟨_, rfl⟩
        obtain ⟨t2, ht2⟩ : ∃ t2, t2 = decide (t.2 = u.2) := ⟨_, rfl⟩
        have HT1 := Lib.hid ht1
        have HT2 := Lib.hid ht2
        obtain ⟨ao, an, ac, bo, bn, bc⟩ := x
        obtain ⟨ao', an', ac', bo', bn', bc'⟩ := y
        simp only at d0 d1 d2 d3
        obtain ⟨W1, hW1⟩ : ∃ W1, W1 = wr.alloc (.cells #[.slice ao an ac, .slice bo bn bc] 38) := ⟨_, rfl⟩
        have G1 : Gr wr W1 := by rw [hW1]; exact Gr.alloc _ _
        have k1 : Blk W1 wr.heap.size #[.slice ao an ac, .slice bo bn bc] 38 := by rw [hW1]; exact Blk.new _ _ _
        have e2 := (G1.below.cell (p := ⟨b', f' + k * 2, none⟩) lb1).trans d2
        have e3 := (G1.below.cell (p := ⟨b', f' + k * 2 + 1, none⟩) lb1).trans d3
        have lb2 : b' < W1.heap.size := Nat.lt_of_lt_of_le lb1 G1.below.size
        have q0 := k1.cell 0
        have q1 := k1.cell 1
        simp only [List.getElem?_toArray, List.getElem?_cons_zero, List.getElem?_cons_succ] at q0 q1
        have lw := k1.lt
        have HC1 := Lib.hid (fun N => dsameN_any (.slice ao an ac) (.slice ao' an' ac') t.1 u.1 (W1.drewN N) (hx.a.later (G1.trans (Gr.drewN _ _)).below) (hy.a.later (G1.trans (Gr.drewN _ _)).below) t1 ht1)
        have HC2 := Lib.hid (fun N => dsameN_any (.slice bo bn bc) (.slice bo' bn' bc') t.2 u.2 (W1.drewN N) (hx.b.later (G1.trans (Gr.drewN _ _)).below) (hy.b.later (G1.trans (Gr.drewN _ _)).below) t2 ht2)
        have HG1 := Lib.hid (below_later HG.out G1.below)
        clear hx hy ht1 ht2 ht hu d2 d3 k1 G1
        go_upto_region 6 with (fail)
        rw [← hW1]
        clear hW1 d0 d1 lb0 lb1
        cases t1
        · have hno : r = false := by
            rw [HR.out]
            refine decide_eq_false fun e => ?_
            have h := HT1.out
            have h2 := HTE.out
            have h3 := HUE.out
            subst e
            rw [← h3] at h2
            rw [h2] at h
            simp at h
          subst hno
          refine wp_region_quiet_lit (by kernel_rfl) (by kernel_rfl) ?_
          iterate 20 (refine quietStep (fun Z K hZ hK => ?_); (try subst hA); go_simp; first | (refine hK _ ?_; clear hK K; generalize hA : Act.mk _ _ = A; rw [hZ]; clear hZ Z) | (apply Exists.intro; refine ⟨fun _ => ?_, hK _ ?_⟩; (first | (go_at_call 40; with_reducible refine Calls.quiet_of (HC1.out _)) | (go_at_call 40; refine Calls.quiet_of (HC2.out _))); clear hK K; generalize hA : Act.mk _ _ = A; rw [hZ]; clear hZ Z))
          refine wpQuiet_nil ?_
          intro _ hw'
          obtain ⟨nq, hw''⟩ := hw'
          subst hw''
          subst hA
          go_wp2
          go_ret
          exact ⟨rfl, (below_later HG1.out (Gr.drewN _ _).below)⟩
        · cases t2
          · have hno : r = false := by
              rw [HR.out]
              refine decide_eq_false fun e => ?_
              have h := HT2.out
              have h2 := HTE.out
              have h3 := HUE.out
              subst e
              rw [← h3] at h2
              rw [h2] at h
              simp at h
            subst hno
            refine wp_region_quiet_lit (by kernel_rfl) (by kernel_rfl) ?_
            iterate 20 (refine quietStep (fun Z K hZ hK => ?_); (try subst hA); go_simp; first | (refine hK _ ?_; clear hK K; generalize hA : Act.mk _ _ = A; rw [hZ]; clear hZ Z) | (apply Exists.intro; refine ⟨fun _ => ?_, hK _ ?_⟩; (first | (go_at_call 40; with_reducible refine Calls.quiet_of (HC1.out _)) | (go_at_call 40; refine Calls.quiet_of (HC2.out _))); clear hK K; generalize hA : Act.mk _ _ = A; rw [hZ]; clear hZ Z))
            refine wpQuiet_nil ?_
            intro _ hw'
            obtain ⟨nq, hw''⟩ := hw'
            subst hw''
            subst hA
            go_wp2
            go_ret
            exact ⟨rfl, (below_later HG1.out (Gr.drewN _ _).below)⟩
          · have HE2 : Hid (L.take (k + 1) = M.take (k + 1)) := Lib.hid (by
              have a1 := of_decide_eq_true HT1.out.symm
              have a2 := of_decide_eq_true HT2.out.symm
              rw [HTL.out, HTM.out, HE.out, Prod.ext a1 a2])
            refine wp_region_quiet_lit (by kernel_rfl) (by kernel_rfl) ?_
            iterate 20 (refine quietStep (fun Z K hZ hK => ?_); (try subst hA); go_simp; first | (refine hK _ ?_; clear hK K; generalize hA : Act.mk _ _ = A; rw [hZ]; clear hZ Z) | (apply Exists.intro; refine ⟨fun _ => ?_, hK _ ?_⟩; (first | (go_at_call 40; with_reducible refine Calls.quiet_of (HC1.out _)) | (go_at_call 40; refine Calls.quiet_of (HC2.out _))); clear hK K; generalize hA : Act.mk _ _ = A; rw [hZ]; clear hZ Z))
            refine wpQuiet_nil ?_
            intro _ hw'
            obtain ⟨nq, hw''⟩ := hw'
            subst hw''
            subst hA
            go_wp2
            go_roundw
            case rel => exact ⟨k + 1, by omega, by go_num, HE2, Lib.hid (below_later HG1.out (Gr.drewN _ _).below)⟩
            case measure => simp [intOf]; omega
      · have hyes : r = true := by
          rw [HR.out]
          refine decide_eq_true ?_
          have := HE.out
          rwa [List.take_of_length_le (by have := HN.out; omega), List.take_of_length_le (by have := HM.out; have := HNM.out; omega)] at this
        subst hyes
        go_wp2
        go_ret
        exact ⟨rfl, HG.out⟩
  · have t0 : ((n : Int) != (m : Int)) = true := by simp; omega
    have hno : r = false := by
      rw [HR.out]
      refine decide_eq_false fun e => hnm ?_
      have := HN.out
      have := HM.out
      rw [e] at *
      omega
    subst hno
    go_enter Try.func14, Try.ntmps14
    go_wp2
    go_ret
    exact ⟨rfl, Below.refl _ _⟩
end Go.Proofs.Ytcapmhmlipmciaa


/- The reference: colanderref11.Says, Those, Content. -/
namespace Go.Proofs.Kit
open Go.RowKit
theorem says_next {L : List Tr} {k : Nat} (hk : k < L.length) (p : Pr) : says (L.take (k + 1)) p = if p ∈ L[k].1 then 1 else if p ∈ L[k].2 then 2 else says (L.take k) p := by
  rw [List.take_succ_eq_append_getElem hk, says_append, says_one]
  unfold say1
  by_cases h1 : p ∈ L[k].1
  · simp [h1]
  · by_cases h2 : p ∈ L[k].2 <;> simp [h1, h2]
end Go.Proofs.Kit
namespace Go.Proofs.Ytcapmhmlipmciaa
open Go.RowKit Go.Proofs.Kit
set_option maxRecDepth 100000 in
set_option maxHeartbeats 4000000 in
theorem esays_any (v : Value) (L : List Tr) (p1 p2 : Int) (w : World) (h : SegT w v L) (hd : ∀ t ∈ L, ∀ p ∈ t.1, p ∉ t.2) (s : Int) (hs : s = says L (p1, p2)) :
    Calls Try.prog 20 #[v, PV p1 p2] w fun e w' => e = .returned (.int .i64 s) ∧ Gr w w' := by
  have hl62 := h.len
  obtain ⟨o, c, rfl, hc, hm⟩ := h.shape
  obtain ⟨n, hn⟩ : ∃ n, n = L.length := ⟨_, rfl⟩
  rw [← hn] at h hc hl62 ⊢
  have HL := Lib.hid hn.symm
  have HA := Lib.hid h
  have HD := Lib.hid hd
  have HSS := Lib.hid hs
  clear h hn hd hs
  go_enter Try.func20, Try.ntmps20
  go_wp2
  obtain ⟨W0, hW0⟩ : ∃ W0, W0 = w.alloc (.cells #[.int .u64 p1, .int .u64 p2] 36) := ⟨_, rfl⟩
  have G0 : Gr w W0 := by rw [hW0]; exact Gr.alloc _ _
  have k0 : Blk W0 w.heap.size #[.int .u64 p1, .int .u64 p2] 36 := by rw [hW0]; exact Blk.new _ _ _
  rw [← hW0]
  clear hW0
  have HG0 := Lib.hid G0
  have HK0 := Lib.hid k0
  clear G0 k0
  go_loopw [5, 10] (fun s5 i wr => ∃ k : Nat, k ≤ n ∧ i = .int .i64 (k : Int) ∧ s5 = .int .i64 (says (L.take k) (p1, p2)) ∧ Hid (Gr W0 wr)) (fun _ i _ => n - (intOf i).toNat)
  case atStart => exact ⟨0, Nat.zero_le _, rfl, rfl, Lib.hid (Gr.refl _)⟩
  case round =>
    obtain ⟨k, hk, rfl, rfl, HG⟩ := hrel
    obtain ⟨sv, hsv⟩ : ∃ sv, sv = says (L.take k) (p1, p2) := ⟨_, rfl⟩
    rw [← hsv]
    by_cases hlt : k < n
    · have hkl : k < L.length := by have := HL.out; omega
      obtain ⟨b, f, x, rfl, _, lb0, d0, d1, hx⟩ := (HA.out.gr (HG0.out.trans HG.out)).at hkl
      have hN := says_next hkl (p1, p2)
      have hdis := HD.out _ (List.getElem_mem hkl)
      obtain ⟨t, ht⟩ : ∃ t, t = L[k] := ⟨_, rfl⟩
      rw [← ht] at hx hN hdis
      rw [← hsv] at hN
      obtain ⟨ao, an, ac, bo, bn, bc⟩ := x
      simp only at d0 d1
      have kp := HK0.out.later HG.out.below
      have c0 := kp.cell 0
      have c1 := kp.cell 1
      have lp := kp.lt
      simp only [List.getElem?_toArray, List.getElem?_cons_zero, List.getElem?_cons_succ] at c0 c1
      obtain ⟨b1, hb1⟩ : ∃ b1, b1 = decide ((p1, p2) ∈ t.1) := ⟨_, rfl⟩
      obtain ⟨b2, hb2⟩ : ∃ b2, b2 = decide ((p1, p2) ∈ t.2) := ⟨_, rfl⟩
      have gA := Gr.alloc wr (.cells #[.slice ao an ac, .slice bo bn bc] 38)
      have HT := Lib.hid (Blk.new wr #[.slice ao an ac, .slice bo bn bc] 38)
      have HKP := Lib.hid (kp.later gA.below)
      have HH1 := Lib.hid (fun W (hb : Below wr.heap.size wr W) => dhas_is _ t.1 W (hx.a.later hb) p1 p2 b1 hb1.symm)
      have HH2 := Lib.hid (fun W (hb : Below wr.heap.size wr W) => dhas_is _ t.2 W (hx.b.later hb) p1 p2 b2 hb2.symm)
      have HGA := Lib.hid gA
      have HB1 := Lib.hid hb1
      have HB2 := Lib.hid hb2
      have HN := Lib.hid hN
      have HDI := Lib.hid hdis
      clear hx hdis ht hb1 hb2 gA hN kp hsv
      go_wp2_with fail
      refine (HH1.out _ HGA.out.below).mono ?_
      rintro e w2 ⟨rfl, g2⟩
      have kt := HT.out.later g2.below
      have kp := HKP.out.later g2.below
      have HG2 := Lib.hid (HGA.out.trans g2)
      have e0 := kt.cell 0
      have e1 := kt.cell 1
      have lt := kt.lt
      have c0 := kp.cell 0
      have c1 := kp.cell 1
      have lp := kp.lt
      simp only [List.getElem?_toArray, List.getElem?_cons_zero, List.getElem?_cons_succ] at e0 e1 c0 c1
      clear g2 kt kp d0 d1 lb0 HH1
      cases b1
      · have h1 := of_decide_eq_false HB1.out.symm
        have H1 := Lib.hid h1
        clear h1
        go_wp2_with fail
        refine (HH2.out _ HG2.out.below).mono ?_
        rintro e w3 ⟨rfl, g3⟩
        have HG3 := Lib.hid (HG2.out.trans g3)
        clear g3 HH2 e0 e1 lt c0 c1 lp
        cases b2
        · have h2 := of_decide_eq_false HB2.out.symm
          have hn2 : says (L.take (k + 1)) (p1, p2) = sv := by rw [HN.out, if_neg H1.out, if_neg h2]
          have HN2 := Lib.hid hn2
          clear h2 hn2
          go_wp2
          go_roundw
          case rel => exact ⟨k + 1, by omega, by go_num, by rw [HN2.out], Lib.hid (HG.out.trans HG3.out)⟩
          case measure => simp [intOf]; omega
        · have h2 := of_decide_eq_true HB2.out.symm
          have hn2 : says (L.take (k + 1)) (p1, p2) = 2 := by rw [HN.out, if_neg H1.out, if_pos h2]
          have HN2 := Lib.hid hn2
          clear h2 hn2
          go_wp2
          go_roundw
          case rel => exact ⟨k + 1, by omega, by go_num, by rw [HN2.out], Lib.hid (HG.out.trans HG3.out)⟩
          case measure => simp [intOf]; omega
      · have h1 := of_decide_eq_true HB1.out.symm
        have hb2 : b2 = false := by rw [HB2.out]; exact decide_eq_false (HDI.out _ h1)
        have hn2 : says (L.take (k + 1)) (p1, p2) = 1 := by rw [HN.out, if_pos h1]
        have HN2 := Lib.hid hn2
        subst hb2
        clear h1 hn2
        go_wp2_with fail
        refine (HH2.out _ HG2.out.below).mono ?_
        rintro e w3 ⟨rfl, g3⟩
        have HG3 := Lib.hid (HG2.out.trans g3)
        clear g3 HH2 e0 e1 lt c0 c1 lp
        go_wp2
        go_roundw
        case rel => exact ⟨k + 1, by omega, by go_num, by rw [HN2.out], Lib.hid (HG.out.trans HG3.out)⟩
        case measure => simp [intOf]; omega
    · have hsv2 : sv = s := by rw [hsv, HSS.out, List.take_of_length_le (by have := HL.out; omega)]
      subst hsv2
      clear hsv
      go_wp2
      go_ret
      exact ⟨rfl, HG0.out.trans HG.out⟩
end Go.Proofs.Ytcapmhmlipmciaa


/- The reference: colanderref11.Those, Content. -/
namespace Go.Proofs.Kit
open Go.RowKit
/-- Some of a list, so far. -/
def thoseN (L : List Tr) (s : Int) (l : List Pr) : List Pr := l.filter fun p => decide (says L p = s)
theorem thoseN_next {L : List Tr} {s : Int} {l : List Pr} {k : Nat} (hk : k < l.length) : thoseN L s (l.take (k + 1)) = thoseN L s (l.take k) ++ (if says L l[k] = s then [l[k]] else []) := by
  rw [List.take_succ_eq_append_getElem hk, thoseN, thoseN, List.filter_append]
  by_cases h : says L l[k] = s <;> simp [h]
theorem thoseN_len (L : List Tr) (s : Int) (l : List Pr) : (thoseN L s l).length ≤ l.length := List.length_filter_le _ _
end Go.Proofs.Kit
namespace Go.Proofs.Ytcapmhmlipmciaa
open Go.RowKit Go.Proofs.Kit
set_option maxRecDepth 100000 in
set_option maxHeartbeats 8000000 in
theorem those_any (v : Value) (L : List Tr) (s : Int) (w : World) (h : SegT w v L) (m : Nat) (hS : SmT m L) (hb : L.length * (2 * m) ≤ 1000) (hm : m ≤ 1000) (hd : ∀ t ∈ L, ∀ p ∈ t.1, p ∉ t.2) :
    Calls Try.prog 43 #[v, .int .i64 s] w fun e w' => ∃ v', e = .returned v' ∧ OwnP 36 w.heap.size w' v' (those L s) ∧ Below w.heap.size w w' := by
  obtain ⟨i0, hi, hz0, hz1, hz2⟩ := infoP
  have hmix := mixed
  have hl62 := h.len
  obtain ⟨o, c, rfl, hc, hm1⟩ := h.shape
  obtain ⟨n, hn⟩ : ∃ n, n = L.length := ⟨_, rfl⟩
  rw [← hn] at h hc hl62 hb ⊢
  have HL := Lib.hid hn.symm
  have HA := Lib.hid h
  have HD := Lib.hid hd
  have HS := Lib.hid hS
  have HBM := Lib.hid (And.intro hb hm)
  clear h hn hd hS hb hm
  go_enter Try.func43, Try.ntmps43
  go_wp2
  go_loopw [5, 13] (fun s5 i wr => ∃ k : Nat, k ≤ n ∧ i = .int .i64 (k : Int) ∧ Hid (OwnP 36 w.heap.size wr s5 (uni (L.take k))) ∧ Hid (Below w.heap.size w wr)) (fun _ i _ => n - (intOf i).toNat)
  case atStart => exact ⟨0, Nat.zero_le _, rfl, Lib.hid (OwnP.nil _ _ _), Lib.hid (Below.refl _ _)⟩
  case round =>
    obtain ⟨k, hk, rfl, HO, HB⟩ := hrel
    by_cases hlt : k < n
    · have hkl : k < L.length := by have := HL.out; omega
      obtain ⟨b, f, x, rfl, _, lb0, d0, d1, hx⟩ := (HA.out.later HB.out).at hkl
      have hN := uni_take hkl
      have hSt := HS.out _ (List.getElem_mem hkl)
      have hul : (uni (L.take k)).length + 2 * m ≤ 1000 := by
        have h1 := uni_len (fun t ht => HS.out t (List.mem_of_mem_take ht) : SmT m (L.take k))
        have h2 := HBM.out.1
        rw [List.length_take, Nat.min_eq_left (by omega)] at h1
        have h3 : (k + 1) * (2 * m) ≤ n * (2 * m) := Nat.mul_le_mul_right _ hlt
        rw [Nat.add_mul] at h3
        omega
      obtain ⟨t, ht⟩ : ∃ t, t = L[k] := ⟨_, rfl⟩
      rw [← ht] at hx hN hSt
      obtain ⟨U, hU⟩ : ∃ U, U = uni (L.take k) := ⟨_, rfl⟩
      rw [← hU] at hN hul HO
      obtain ⟨ao, an, ac, bo, bn, bc⟩ := x
      simp only at d0 d1
      obtain ⟨ou, cu, hsu⟩ := HO.out.shape
      subst hsu
      obtain ⟨nu, hnu⟩ : ∃ nu, nu = U.length := ⟨_, rfl⟩
      rw [← hnu] at HO hul ⊢
      have HNU := Lib.hid hnu
      have gA := (Gr.alloc wr (.cells #[.slice ao an ac, .slice bo bn bc] 38)).below
      have HU1 := Lib.hid (fun W (hb : Below wr.heap.size wr W) => dunion_any _ U _ t.1 W (HO.out.later hb).seg (by omega) (hx.a.later hb) (by omega))
      have HU2 := Lib.hid (fun v W W0 (hb : Below wr.heap.size wr W) (hv : OwnP 36 W0 W v (ofP (U ++ t.1))) => dunion_any _ (ofP (U ++ t.1)) _ t.2 W hv.seg (by have := ofP_len (U ++ t.1); rw [List.length_append] at this; omega) (hx.b.later hb) (by omega))
      have HN := Lib.hid hN
      have hbw := HB.out.size
      clear hx hN hSt ht hU hul hnu
      go_wp2_with fail
      obtain ⟨W1, hW1⟩ : ∃ W1, W1 = wr.alloc (.cells #[.slice ao an ac, .slice bo bn bc] 38) := ⟨_, rfl⟩
      have tw : TW 38 wr wr.heap.size (.slice ao an ac) (.slice bo bn bc) W1 := by rw [hW1]; exact ⟨Blk.new _ _ _, gA⟩
      rw [← hW1]
      clear hW1 gA d0 d1
      have c0 := tw.k.cell 0
      have c1 := tw.k.cell 1
      have lb := tw.k.lt
      simp only [List.getElem?_toArray, List.getElem?_cons_zero, List.getElem?_cons_succ] at c0 c1
      go_region_law (first
        | (go_simp; go_at_call 59; (with_reducible refine (HU1.out _ tw.drew.low).mono ?_); rintro e wS ⟨vA, rfl, hA, bS⟩; obtain ⟨oA, nA, xA, rfl⟩ := hA.any; have tw := tw.drew.later bS; obtain ⟨c0, c1⟩ : wS.cell? ⟨wr.heap.size, 0, none⟩ = some (.slice ao an ac) ∧ wS.cell? ⟨wr.heap.size, 1, none⟩ = some (.slice bo bn bc) := ⟨tw.k.cell 0, tw.k.cell 1⟩; have lb := tw.k.lt; clear bS)
        | (go_simp; go_at_call 59; (with_reducible refine (HU2.out _ _ _ tw.low hA).mono ?_); rintro e wT ⟨vB, rfl, hB, bS⟩; obtain ⟨oB, nB, xB, rfl⟩ := hB.any; have hB := hB.mono (B' := w.heap.size) (by have := tw.low.size; omega); have tw := tw.later bS; clear bS))
      all_goals
        have HT := Lib.hid hB
        have HLow := Lib.hid (below_later HB.out tw.low)
        clear hB hA tw
        go_wp2
        go_roundw
        case rel => exact ⟨k + 1, by omega, by go_num, Lib.hid (by rw [HN.out]; exact HT.out), HLow⟩
        case measure => simp [intOf]; omega
    · have hO := HO.out
      rw [List.take_of_length_le (by have := HL.out; omega)] at hO
      have hul : (uni L).length ≤ 1000 := by
        have h1 := uni_len HS.out
        have h2 := HBM.out.1
        have h3 := HL.out
        rw [h3] at h1
        omega
      obtain ⟨U, hU⟩ : ∃ U, U = uni L := ⟨_, rfl⟩
      rw [← hU] at hO hul
      have HUE := Lib.hid hU
      obtain ⟨ou, cu, rfl⟩ := hO.shape
      obtain ⟨nu, hnu⟩ : ∃ nu, nu = U.length := ⟨_, rfl⟩
      rw [← hnu] at hO hul ⊢
      have HNU := Lib.hid hnu
      have HSG := Lib.hid hO.seg
      have HB0 := Lib.hid HB.out
      clear HO hO hU hnu HB
      go_wp2
      obtain ⟨wA, hwA⟩ : ∃ wA, wA = wr := ⟨_, rfl⟩
      subst hwA
      go_loopw [8, 27] (fun s8 i wx => ∃ q : Nat, q ≤ nu ∧ i = .int .i64 (q : Int) ∧ Hid (OwnP 36 wA.heap.size wx s8 (thoseN L s (U.take q))) ∧ Hid (Below wA.heap.size wA wx)) (fun _ i _ => nu - (intOf i).toNat)
      case atStart => exact ⟨0, Nat.zero_le _, rfl, Lib.hid (OwnP.nil _ _ _), Lib.hid (Below.refl _ _)⟩
      case round =>
        obtain ⟨q, hq, rfl, HO, HB⟩ := hrel
        by_cases hlt : q < nu
        · have hql : q < U.length := by have := HNU.out; omega
          obtain ⟨b, f, rfl, hb, hcells⟩ := (HSG.out.later HB.out).has hql
          obtain ⟨d1, d2⟩ := hcells q hql
          have hft := thoseN_next (L := L) (s := s) hql
          have hlen := thoseN_len L s (U.take q)
          rw [List.length_take] at hlen
          obtain ⟨x, hx⟩ : ∃ x, x = U[q] := ⟨_, rfl⟩
          rw [← hx] at d1 d2 hft
          clear hx hcells
          obtain ⟨x1, x2⟩ := x
          simp only at d1 d2
          obtain ⟨sv, hsv⟩ : ∃ sv, sv = says L (x1, x2) := ⟨_, rfl⟩
          rw [← hsv] at hft
          obtain ⟨M, hM⟩ : ∃ M, M = thoseN L s (U.take q) := ⟨_, rfl⟩
          rw [← hM] at HO hlen hft
          have HFT0 := Lib.hid hft
          have HBB := Lib.hid (below_later HB0.out HB.out)
          have HSAY := Lib.hid (esays_any _ L x1 x2 (wr.alloc (.cells #[.int .u64 x1, .int .u64 x2] 36)) ((HA.out.later HBB.out).later (Gr.alloc _ _).below) HD.out sv hsv)
          clear hft hM hsv
          go_wp2_with fail
          refine HSAY.out.mono ?_
          rintro e w2 ⟨rfl, g2⟩
          have bx := (Blk.new wr #[.int .u64 x1, .int .u64 x2] 36).later g2.below
          have gg := (Gr.alloc wr (.cells #[.int .u64 x1, .int .u64 x2] 36)).trans g2
          have b2 : Below wA.heap.size wA w2 := below_later HB.out gg.below
          have bw := b2.size
          have o2 : OwnP 36 wA.heap.size w2 _ M := HO.out.later gg.below
          have e0 := bx.cell 0
          have e1 := bx.cell 1
          have lx := bx.lt
          simp only [List.getElem?_toArray, List.getElem?_cons_zero, List.getElem?_cons_succ] at e0 e1
          have HB2 := Lib.hid b2
          clear d1 d2 g2 bx gg b2 HSAY
          by_cases hth : sv = s
          · subst hth
            have HFT : Hid (thoseN L sv (U.take (q + 1)) = M ++ [(x1, x2)]) := Lib.hid (by rw [HFT0.out]; simp)
            have HO2 := Lib.hid (o2.alloc (.cells #[.int .u64 x1, .int .u64 x2] 36))
            have HSG1 := Lib.hid (SegP.one (w := w2) (t := 36) x1 x2)
            clear o2
            go_wp2_with (at_builtin; refine wpList_append_segP rfl _ _ 23 rfl wA.heap.size 36 i0 (.agg #[.int .u64 0, .int .u64 0]) Try.underlying23 hi hz0 hz1 hz2 rfl _ _ rfl HO2.out _ [(x1, x2)] rfl HSG1.out ?qa ?qb ?_)
            case qa => simp only [List.length_cons, List.length_nil]; omega
            case qb => simp; omega
            intro v3 w3 hO3 hb3 hg3 _
            have O3 := Lib.hid hO3
            have HB3 := Lib.hid ((HB2.out.alloc HB2.out.size _).trans hb3)
            clear hO3 e0 e1 lx
            go_wp2
            go_roundw
            case rel => exact ⟨q + 1, by omega, by go_num, Lib.hid (by rw [HFT.out]; simpa using O3.out), HB3⟩
            case measure => simp [intOf]; omega
          · have t0 : (sv == s) = false := by simpa using hth
            have t1 : decide (sv = s) = false := by simpa using hth
            have HFT : Hid (thoseN L s (U.take (q + 1)) = M) := Lib.hid (by rw [HFT0.out, if_neg hth]; simp)
            clear hth
            have O2 := Lib.hid o2
            clear o2 e0 e1 lx
            go_wp2
            go_roundw
            case rel => exact ⟨q + 1, by omega, by go_num, Lib.hid (by rw [HFT.out]; simpa using O2.out), HB2⟩
            case measure => simp [intOf]; omega
        · have hO := HO.out
          rw [List.take_of_length_le (by have := HNU.out; omega), HUE.out] at hO
          have HO := Lib.hid hO
          have HBB := Lib.hid (below_later HB0.out HB.out)
          clear hO
          go_wp2
          go_ret
          exact ⟨_, rfl, HO.out.mono HB0.out.size, HBB.out⟩
set_option maxRecDepth 100000 in
theorem econtent_any (v : Value) (L : List Tr) (w : World) (h : SegT w v L) (m : Nat) (hS : SmT m L) (hb : L.length * (2 * m) ≤ 1000) (hm : m ≤ 1000) (hd : ∀ t ∈ L, ∀ p ∈ t.1, p ∉ t.2) :
    Calls Try.prog 17 #[v] w fun e w' => ∃ v', e = .returned v' ∧ OwnP 36 w.heap.size w' v' (those L 1) ∧ Below w.heap.size w w' := by
  obtain ⟨o, c, rfl, hc, hm1⟩ := h.shape
  have HT := Lib.hid (those_any _ L 1 w h m hS hb hm hd)
  clear h hS hd
  go_enter Try.func17, Try.ntmps17
  go_wp2_with fail
  refine HT.out.mono ?_
  rintro e w1 ⟨v1, rfl, o1, b1⟩
  obtain ⟨o', n', c', rfl⟩ := o1.any
  have O1 := Lib.hid o1
  clear o1
  go_wp2
  go_ret
  exact ⟨_, rfl, O1.out, b1⟩
end Go.Proofs.Ytcapmhmlipmciaa

