import Derived.Test.YtlhigfphfbmbjaaZA
import Derived.BigQuiet
/- Marks; sort.Search; onwards: a row from its first pair on that is far enough. -/
namespace Go.Proofs.Ytlhigfphfbmbjaa
open Go.RowKit Go.Proofs.Kit Go.Shelf
set_option maxRecDepth 100000 in
set_option maxHeartbeats 1000000 in
theorem reached_any (m p : Pr) (w : World) : Calls Try.prog 67 #[PV m.1 m.2, PV p.1 p.2] w fun e w' => e = .returned (.bool (decide (0 ≤ cf2 p m))) ∧ Gr w w' := by
  obtain ⟨m1, m2⟩ := m
  obtain ⟨p1, p2⟩ := p
  obtain ⟨t, ht⟩ : ∃ t, t = cf2 (p1, p2) (m1, m2) := ⟨_, rfl⟩
  rw [← ht]
  have HT := Lib.hid ht
  clear ht
  have hg := ((Gr.alloc w (.cells #[.int .u64 m1, .int .u64 m2] 103)).trans (Gr.alloc _ (.cells #[.int .u64 p1, .int .u64 p2] 53)))
  go_enter Try.func67, Try.ntmps67
  go_wp2_with (go_at_call 45; refine (compare_at _ _ _ _ t HT.out _).mono ?_; rintro e w1 ⟨rfl, g1⟩)
  go_ret
  exact ⟨rfl, hg.trans g1⟩
set_option maxRecDepth 100000 in
set_option maxHeartbeats 1000000 in
theorem passed_any (m p : Pr) (w : World) : Calls Try.prog 70 #[PV m.1 m.2, PV p.1 p.2] w fun e w' => e = .returned (.bool (decide (0 < cf2 p m))) ∧ Gr w w' := by
  obtain ⟨m1, m2⟩ := m
  obtain ⟨p1, p2⟩ := p
  obtain ⟨t, ht⟩ : ∃ t, t = cf2 (p1, p2) (m1, m2) := ⟨_, rfl⟩
  rw [← ht]
  have HT := Lib.hid ht
  clear ht
  have hg := ((Gr.alloc w (.cells #[.int .u64 m1, .int .u64 m2] 103)).trans (Gr.alloc _ (.cells #[.int .u64 p1, .int .u64 p2] 53)))
  go_enter Try.func70, Try.ntmps70
  go_wp2_with (go_at_call 45; refine (compare_at _ _ _ _ t HT.out _).mono ?_; rintro e w1 ⟨rfl, g1⟩)
  go_ret
  exact ⟨rfl, hg.trans g1⟩
/-- A function that tells whether a pair is far enough, with the mark that it holds. -/
structure Far (fid : Nat) (m : Pr) (fp : Pr → Bool) : Prop where
  enters : ∀ args w, Sem.run Try.prog (callFunc fid args) w = .ok (.enter fid args) w
  calls : ∀ (p : Pr) w, Calls Try.prog fid #[PV m.1 m.2, PV p.1 p.2] w fun e w' => e = .returned (.bool (fp p)) ∧ Gr w w'
  up : ∀ p q, lt2 p q → fp p = true → fp q = true
theorem far_reached (m : Pr) : Far 67 m fun p => decide (0 ≤ cf2 p m) where
  enters _ _ := by kernel_rfl
  calls p w := reached_any m p w
  up p q h k := by
    rw [decide_eq_true_eq] at k ⊢
    have h1 := cf2_neg p m
    have h2 := cf2_neg q m
    by_cases c : cf2 q m < 0
    · have := h1.2 (lt2_trans h (h2.1 c)); omega
    · omega
theorem far_passed (m : Pr) : Far 70 m fun p => decide (0 < cf2 p m) where
  enters _ _ := by kernel_rfl
  calls p w := passed_any m p w
  up p q h k := by
    rw [decide_eq_true_eq] at k ⊢
    exact (cf2_pos q m).2 (lt2_trans ((cf2_pos p m).1 k) h)
set_option maxRecDepth 100000 in
set_option maxHeartbeats 4000000 in
theorem search9_any (p1 p2 p3 : Value) (n : Nat) (f : Nat → Bool) (i : Nat) (w : World) (hn : n ≤ 1000000000)
    (hc : ∀ W, Below w.heap.size w W → ∀ h, h < n → Calls Try.prog 110 #[.int .i64 (h : Int), p1, p2, p3] W fun e w' => e = .returned (.bool (f h)) ∧ Below W.heap.size W w')
    (h1 : ∀ h, h < n → h < i → f h = false) (h2 : ∀ h, h < n → i ≤ h → f h = true) (hi : i ≤ n) :
    Calls Try.prog 109 #[.int .i64 (n : Int), .func (.func 110) #[] #[p1, p2, p3]] w fun e w' => e = .returned (.int .i64 (i : Int)) ∧ Below w.heap.size w w' := by
  have HC := Lib.hid hc
  have H1 := Lib.hid h1
  have H2 := Lib.hid h2
  clear hc h1 h2
  go_enter Try.func109, Try.ntmps109
  go_wp2
  go_loopw [5, 6] (fun a b wr => ∃ x y : Nat, x ≤ i ∧ i ≤ y ∧ y ≤ n ∧ a = .int .i64 (x : Int) ∧ b = .int .i64 (y : Int) ∧ Hid (Below w.heap.size w wr)) (fun a b _ => (intOf b).toNat - (intOf a).toNat)
  case atStart => exact ⟨0, n, Nat.zero_le _, hi, Nat.le_refl _, rfl, rfl, Lib.hid (Below.refl _ _)⟩
  case round =>
    obtain ⟨x, y, hx, hy, hyn, rfl, rfl, HB⟩ := hrel
    by_cases hlt : x < y
    · obtain ⟨h, hh⟩ : ∃ h, h = (x + y) / 2 := ⟨_, rfl⟩
      have hw1 : IntKind.i64.wrap ((x : Int) + (y : Int)) = (x : Int) + (y : Int) := by rw [IntKind.wrap_i64]; omega
      have hw2 : IntKind.u64.wrap ((x : Int) + (y : Int)) = (x : Int) + (y : Int) := by rw [IntKind.wrap_u64]; omega
      have hw3 : ((x : Int) + (y : Int)) / 2 = (h : Int) := by omega
      have hxh : x ≤ h := by omega
      have hhy : h < y := by omega
      have HCA := Lib.hid (fun W g => HC.out W g h (by omega))
      have hcut : h < i → f h = false := fun e => H1.out h (by omega) e
      have hcut2 : i ≤ h → f h = true := fun e => H2.out h (by omega) e
      obtain ⟨fh, hfh⟩ : ∃ fh, fh = f h := ⟨_, rfl⟩
      rw [← hfh] at HCA hcut hcut2
      have HCU := Lib.hid (And.intro hcut hcut2)
      clear hh hcut hcut2 hfh
      go_wp2_with fail
      refine (HCA.out _ HB.out).mono ?_
      rintro e w1 ⟨rfl, l1⟩
      have HB := Lib.hid (below_later HB.out l1)
      clear l1
      cases fh with
      | false =>
        have hih : h < i := by
          rcases Nat.lt_or_ge h i with e | e
          · exact e
          · have := HCU.out.2 e; cases this
        have hh1 : h + 1 ≤ 1000000000 := by omega
        go_wp2
        go_roundw
        case rel => exact ⟨h + 1, y, hih, hy, hyn, by go_num, rfl, HB⟩
        case measure => simp [intOf]; omega
      | true =>
        have hih : i ≤ h := by
          rcases Nat.lt_or_ge h i with e | e
          · have := HCU.out.1 e; cases this
          · exact e
        go_wp2
        go_roundw
        case rel => exact ⟨x, h, hx, hih, by omega, rfl, rfl, HB⟩
        case measure => simp [intOf]; omega
    · have hxi : x = i := by omega
      subst hxi
      go_wp2
      go_ret
      exact ⟨rfl, HB.out⟩
abbrev fv9 (fid : Nat) (m : Pr) : Value := .func (.func fid) #[PV m.1 m.2] #[]
/-- What onwards works on: boxes of the row, of the function and of where it goes on from. -/
structure OnW (fid : Nat) (m : Pr) (b0 rb off n cap f : Nat) (row : List Pr) (W : World) : Prop where
  k0 : Blk W b0 #[.slice (some ⟨rb, off, none⟩) n cap] 22
  k1 : Blk W (b0 + 1) #[fv9 fid m] 102
  k2 : Blk W (b0 + 1 + 1) #[.int .i64 (f : Int)] 3
  cells : PCells W rb off row
  rlt : rb < W.heap.size
theorem OnW.later {fid : Nat} {m : Pr} {b0 rb off n cap f : Nat} {row : List Pr} {W W' : World} (h : OnW fid m b0 rb off n cap f row W) (hb : Below W.heap.size W W') : OnW fid m b0 rb off n cap f row W' :=
  ⟨h.k0.later hb, h.k1.later hb, h.k2.later hb, h.cells.below hb h.rlt, Nat.lt_of_lt_of_le h.rlt hb.size⟩
set_option maxRecDepth 100000 in
set_option maxHeartbeats 4000000 in
theorem onwardsIn_any {fid : Nat} {m : Pr} {fp : Pr → Bool} (hf : Far fid m fp) {b0 rb off n cap f : Nat} {row : List Pr} (W : World) (h : OnW fid m b0 rb off n cap f row W) (hn : n = row.length) (hc : n ≤ cap) (hcap : cap ≤ 4611686018427387903) (k : Nat) (hk : f + k < row.length) :
    Calls Try.prog 110 #[.int .i64 (k : Int), ptr9 (b0 + 1), ptr9 b0, ptr9 (b0 + 1 + 1)] W fun e w' => e = .returned (.bool (fp row[f + k])) ∧ Below W.heap.size W w' := by
  have hmix := mixed
  have he := hf.enters
  have d0 : ∀ q os, (Sort.grow (W.drewN q) os).cell? ⟨b0, 0, none⟩ = some (.slice (some ⟨rb, off, none⟩) n cap) := fun q os => cell_grown h.k0.lt ((h.k0.cell 0).trans rfl) q os
  have d1 : ∀ q os, (Sort.grow (W.drewN q) os).cell? ⟨b0 + 1, 0, none⟩ = some (.func (.func fid) #[PV m.1 m.2] #[]) := fun q os => cell_grown h.k1.lt ((h.k1.cell 0).trans rfl) q os
  have d2 : ∀ q os, (Sort.grow (W.drewN q) os).cell? ⟨b0 + 1 + 1, 0, none⟩ = some (.int .i64 (f : Int)) := fun q os => cell_grown h.k2.lt ((h.k2.cell 0).trans rfl) q os
  obtain ⟨d3, d4⟩ := h.cells.grown h.rlt hk
  have HC := Lib.hid (fun w => hf.calls row[f + k] w)
  obtain ⟨p, hp⟩ : ∃ p, p = row[f + k] := ⟨_, rfl⟩
  obtain ⟨u, hu⟩ : ∃ u, u = fp row[f + k] := ⟨_, rfl⟩
  rw [← hu] at HC ⊢
  rw [← hp] at d3 d4 HC
  rw [← hn] at hk
  obtain ⟨p1, p2⟩ := p
  obtain ⟨m1, m2⟩ := m
  obtain ⟨j, hj⟩ : ∃ j, j = f + k := ⟨_, rfl⟩
  rw [← hj] at d3 d4 hk
  have hjz : (f : Int) + (k : Int) = (j : Int) := by omega
  have hjw : IntKind.i64.wrap (j : Int) = (j : Int) := by rw [IntKind.wrap_i64]; omega
  have hkn : k ≤ 4611686018427387903 := by omega
  have hfn : f ≤ 4611686018427387903 := by omega
  clear h hf hn hp hu hj
  go_enter Try.func110, Try.ntmps110
  go_wp2
  go_quiet_grown ((go_at_fn fid; refine Calls.gr_of (HC.out _)))
  go_wp2
  go_ret
  exact ⟨rfl, (Gr.grown _ _ _).below⟩
end Go.Proofs.Ytlhigfphfbmbjaa


/- onwards: a row from its first pair on that is far enough. -/
namespace Go.Proofs.Kit
open Go.RowKit
theorem first_far {row : List Pr} {fp : Pr → Bool} (hr : Run row) (up : ∀ p q, lt2 p q → fp p = true → fp q = true) : ∃ K, K ≤ row.length ∧ (∀ i (_ : i < row.length), i < K → fp row[i] = false) ∧ (∀ i (_ : i < row.length), K ≤ i → fp row[i] = true) := by
  refine ⟨row.findIdx fp, List.findIdx_le_length, fun i hi h => ?_, fun i hi h => ?_⟩
  · exact List.not_of_lt_findIdx h
  · have h1 : row.findIdx fp < row.length := Nat.lt_of_le_of_lt h hi
    have h2 : fp row[row.findIdx fp] = true := List.findIdx_getElem
    by_cases e : row.findIdx fp = i
    · simp only [e] at h2
      exact h2
    · exact up _ _ (hr.at h1 hi (by omega)) h2
end Go.Proofs.Kit
namespace Go.Proofs.Ytlhigfphfbmbjaa
open Go.RowKit Go.Proofs.Kit Go.Shelf
theorem OnW.step {fid : Nat} {m : Pr} {b0 rb off n cap f : Nat} {row : List Pr} {W : World} (h : OnW fid m b0 rb off n cap f row W) (t : Nat) (hr : rb < b0) : OnW fid m b0 rb off n cap t row (W.setCell ⟨b0 + 1 + 1, 0, none⟩ (.int .i64 (t : Int))) where
  k0 := h.k0.other (by simp; omega) _
  k1 := h.k1.other (by simp) _
  k2 := by simpa using h.k2.set 0 (.int .i64 (t : Int))
  cells := fun i hi => by
    have hO := Below.heap_setCell W ⟨b0 + 1 + 1, 0, none⟩ (.int .i64 (t : Int)) rb (by simp; omega)
    have := h.cells i hi
    exact ⟨(World.cell?_of_block (a := ⟨rb, off + i * 2, none⟩) hO).trans this.1, (World.cell?_of_block (a := ⟨rb, off + i * 2 + 1, none⟩) hO).trans this.2⟩
  rlt := by simpa using h.rlt
theorem Below.set9 {B : Nat} {w w' : World} (h : Below B w w') {p : Addr} {u : Value} (hp : B ≤ p.block) : Below B w (w'.setCell p u) :=
  ⟨h.os, h.tape, h.output, by simpa using h.size, fun k hk => (Below.heap_setCell w' p u k (by rintro rfl; omega)).trans (h.block k hk)⟩
set_option maxRecDepth 100000 in
set_option maxHeartbeats 8000000 in
theorem onwards_any {fid : Nat} {m : Pr} {fp : Pr → Bool} (hf : Far fid m fp) (rb off n cap : Nat) (row : List Pr) (w : World) (hc : PCells w rb off row) (hrl : rb < w.heap.size) (hn : n = row.length) (hle : n ≤ cap) (hcap : cap ≤ 4611686018427387903)
    (hsm : n ≤ 1048576) (hp : 0 < n) (K : Nat) (hK : K ≤ row.length) (hK1 : ∀ i (_ : i < row.length), i < K → fp row[i] = false) (hK2 : ∀ i (_ : i < row.length), K ≤ i → fp row[i] = true) (hK0 : 0 < K) :
    Calls Try.prog 93 #[.slice (some ⟨rb, off, none⟩) n cap, fv9 fid m] w fun e w' => (∃ o' c', e = .returned (.slice o' (n - K) c') ∧ (K < n → o' = some ⟨rb, off + K * 2, none⟩ ∧ c' = cap - K)) ∧ Below w.heap.size w w' := by
  have hmix := mixed
  have HF := Lib.hid hf
  have HK := Lib.hid (And.intro hK1 hK2)
  have HN := Lib.hid hn
  have he := hf.enters
  have hKn : K ≤ n := by omega
  obtain ⟨m1, m2⟩ := m
  have H0 := Lib.hid (And.intro hc hrl)
  clear hK1 hK2 hf hc hn hK
  go_enter Try.func93, Try.ntmps93
  go_wp2
  go_loopw [6] (fun s6 wr => ∃ f t : Nat, s6 = .int .i64 (t : Int) ∧ 1 ≤ t ∧ f < t ∧ t ≤ 2 * n ∧ f < K ∧ Hid (OnW fid (m1, m2) w.heap.size rb off n cap f row wr ∧ Below w.heap.size w wr)) (fun s6 _ => 2 * n - (intOf s6).toNat)
  case atStart =>
    refine ⟨0, 1, rfl, Nat.le_refl _, by omega, by omega, hK0, Lib.hid ?_⟩
    have g1 := Gr.alloc w (.cells #[.slice (some ⟨rb, off, none⟩) n cap] 22)
    have g2 := Gr.alloc (w.alloc (.cells #[.slice (some ⟨rb, off, none⟩) n cap] 22)) (.cells #[fv9 fid (m1, m2)] 102)
    have g3 := Gr.alloc ((w.alloc (.cells #[.slice (some ⟨rb, off, none⟩) n cap] 22)).alloc (.cells #[fv9 fid (m1, m2)] 102)) (.cells #[.int .i64 0] 3)
    have hG := (g1.trans g2).trans g3
    refine ⟨⟨((Blk.new w _ _).alloc _).alloc _, ?_, ?_, H0.out.1.below hG.below H0.out.2, Nat.lt_of_lt_of_le H0.out.2 hG.below.size⟩, hG.below⟩
    · have := (Blk.new (w.alloc (.cells #[.slice (some ⟨rb, off, none⟩) n cap] 22)) #[fv9 fid (m1, m2)] 102).alloc (.cells #[.int .i64 0] 3)
      simpa using this
    · have := Blk.new ((w.alloc (.cells #[.slice (some ⟨rb, off, none⟩) n cap] 22)).alloc (.cells #[fv9 fid (m1, m2)] 102)) #[.int .i64 0] 3
      simpa using this
  case round =>
    obtain ⟨f, t, rfl, h1, hft, ht2, hfK, HR⟩ := hrel
    have d0 : ∀ q os, (Sort.grow (wr.drewN q) os).cell? ⟨w.heap.size, 0, none⟩ = some (.slice (some ⟨rb, off, none⟩) n cap) := fun q os => cell_grown HR.out.1.k0.lt ((HR.out.1.k0.cell 0).trans rfl) q os
    have d1 : ∀ q os, (Sort.grow (wr.drewN q) os).cell? ⟨w.heap.size + 1, 0, none⟩ = some (.func (.func fid) #[PV m1 m2] #[]) := fun q os => cell_grown HR.out.1.k1.lt ((HR.out.1.k1.cell 0).trans rfl) q os
    have d2 : wr.cell? ⟨w.heap.size, 0, none⟩ = some (.slice (some ⟨rb, off, none⟩) n cap) := (HR.out.1.k0.cell 0).trans rfl
    by_cases htn : t < n
    · have k1 : decide ((t : Int) < (n : Int)) = true := decide_eq_true (by omega)
      have htr : t < row.length := by rw [← HN.out]; exact htn
      obtain ⟨d3, d4⟩ := HR.out.1.cells.grown HR.out.1.rlt htr
      have HC := Lib.hid (fun W => HF.out.calls row[t] W)
      have HU := Lib.hid (And.intro (HK.out.1 t htr) (HK.out.2 t htr))
      obtain ⟨p, hp'⟩ : ∃ p, p = row[t] := ⟨_, rfl⟩
      rw [← hp'] at d3 d4 HC HU
      obtain ⟨u, hu⟩ : ∃ u, u = fp p := ⟨_, rfl⟩
      rw [← hu] at HC HU
      obtain ⟨p1, p2⟩ := p
      clear hp' hu
      cases u with
      | true =>
        have hKt : K ≤ t := by
          rcases Nat.lt_or_ge t K with e | e
          · have := HU.out.1 e; cases this
          · exact e
        go_wp2
        go_quiet_grown ((go_at_fn fid; refine Calls.gr_of (HC.out _)))
        rename_i nq osq
        have HW2 := Lib.hid (And.intro (HR.out.1.later (Gr.grown wr nq osq).below) (below_later HR.out.2 (Gr.grown wr nq osq).below))
        generalize Sort.grow (wr.drewN nq) osq = W2 at HW2 ⊢
        clear d3 d4 HU
        obtain ⟨s, hs⟩ : ∃ s, s = t - f := ⟨_, rfl⟩
        obtain ⟨i, hi⟩ : ∃ i, i = K - f := ⟨_, rfl⟩
        have HS := Lib.hid (search9_any (ptr9 (w.heap.size + 1)) (ptr9 w.heap.size) (ptr9 (w.heap.size + 1 + 1)) s (fun h => if hh : f + h < row.length then fp row[f + h] else true) i W2 (by omega) (fun W hb h hh => by
          have hlt : f + h < row.length := by have := HN.out; omega
          rw [dif_pos hlt]
          exact onwardsIn_any HF.out W (HW2.out.1.later hb) HN.out hle hcap h hlt) (fun h h1 h2 => by
          have hlt : f + h < row.length := by have := HN.out; omega
          simp only [dif_pos hlt]
          exact HK.out.1 _ hlt (by omega)) (fun h h1 h2 => by
          have hlt : f + h < row.length := by have := HN.out; omega
          simp only [dif_pos hlt]
          exact HK.out.2 _ hlt (by omega)) (by omega))
        have e0 : W2.cell? ⟨w.heap.size, 0, none⟩ = some (.slice (some ⟨rb, off, none⟩) n cap) := (HW2.out.1.k0.cell 0).trans rfl
        have e2 : W2.cell? ⟨w.heap.size + 1 + 1, 0, none⟩ = some (.int .i64 (f : Int)) := (HW2.out.1.k2.cell 0).trans rfl
        have g2 : min (t : Int) (n : Int) = (t : Int) := by omega
        have g3 : (t : Int) - (f : Int) = (s : Int) := by omega
        have g4 : (f : Int) + (i : Int) = (K : Int) := by omega
        have hsl : s ≤ 1048576 := by omega
        have hil : i ≤ 1048576 := by omega
        have hfl : f ≤ 1048576 := by omega
        have hKl : K ≤ 1048576 := by omega
        have hKc : K ≤ cap := by omega
        clear hs hi d0 d1 d2
        go_wp2_with fail
        refine (HS.out).mono ?_
        rintro e w3 ⟨rfl, b3⟩
        have e3 : w3.cell? ⟨w.heap.size, 0, none⟩ = some (.slice (some ⟨rb, off, none⟩) n cap) := ((HW2.out.1.k0.later b3).cell 0).trans rfl
        have e4 : w3.cell? ⟨w.heap.size + 1 + 1, 0, none⟩ = some (.int .i64 (f : Int)) := ((HW2.out.1.k2.later b3).cell 0).trans rfl
        have HB3 := Lib.hid b3
        clear b3 e0 e2 g2 g3
        by_cases hKe : cap = K
        · go_wp2
          go_ret
          exact ⟨⟨_, _, rfl, fun h => by omega⟩, below_later HW2.out.2 HB3.out⟩
        · go_wp2
          go_ret
          exact ⟨⟨_, _, rfl, fun _ => ⟨rfl, rfl⟩⟩, below_later HW2.out.2 HB3.out⟩
      | false =>
        have htK : t < K := by
          rcases Nat.lt_or_ge t K with e | e
          · exact e
          · have := HU.out.2 e; cases this
        go_wp2
        go_quiet_grown ((go_at_fn fid; refine Calls.gr_of (HC.out _)))
        rename_i nq osq
        have HW2 := Lib.hid (And.intro (HR.out.1.later (Gr.grown wr nq osq).below) (below_later HR.out.2 (Gr.grown wr nq osq).below))
        generalize Sort.grow (wr.drewN nq) osq = W2 at HW2 ⊢
        clear d3 d4 HU
        have e2 : W2.cell? ⟨w.heap.size + 1 + 1, 0, none⟩ = some (.int .i64 (f : Int)) := (HW2.out.1.k2.cell 0).trans rfl
        have f2 := HW2.out.1.k2.frozen 0
        have l2 := HW2.out.1.k2.lt
        go_wp2
        go_roundw
        case rel => exact ⟨t, 2 * t, by go_num, by omega, by omega, by omega, htK, Lib.hid ⟨HW2.out.1.step t H0.out.2, Below.set9 HW2.out.2 (by simp; omega)⟩⟩
        case measure => simp [intOf]; omega
    · have k1 : decide ((t : Int) < (n : Int)) = false := decide_eq_false (by omega)
      go_wp2
      go_quiet (fail)
      have HW2 := Lib.hid (And.intro (HR.out.1.later (Gr.drewN wr nq).below) (below_later HR.out.2 (Gr.drewN wr nq).below))
      generalize wr.drewN nq = W2 at HW2 ⊢
      by_cases hte : t = n
      · subst hte
        obtain ⟨s, hs⟩ : ∃ s, s = t - f := ⟨_, rfl⟩
        obtain ⟨i, hi⟩ : ∃ i, i = K - f := ⟨_, rfl⟩
        have HS := Lib.hid (search9_any (ptr9 (w.heap.size + 1)) (ptr9 w.heap.size) (ptr9 (w.heap.size + 1 + 1)) s (fun h => if hh : f + h < row.length then fp row[f + h] else true) i W2 (by omega) (fun W hb h hh => by
          have hlt : f + h < row.length := by have := HN.out; omega
          rw [dif_pos hlt]
          exact onwardsIn_any HF.out W (HW2.out.1.later hb) HN.out hle hcap h hlt) (fun h h1 h2 => by
          have hlt : f + h < row.length := by have := HN.out; omega
          simp only [dif_pos hlt]
          exact HK.out.1 _ hlt (by omega)) (fun h h1 h2 => by
          have hlt : f + h < row.length := by have := HN.out; omega
          simp only [dif_pos hlt]
          exact HK.out.2 _ hlt (by omega)) (by omega))
        have e0 : W2.cell? ⟨w.heap.size, 0, none⟩ = some (.slice (some ⟨rb, off, none⟩) t cap) := (HW2.out.1.k0.cell 0).trans rfl
        have e2 : W2.cell? ⟨w.heap.size + 1 + 1, 0, none⟩ = some (.int .i64 (f : Int)) := (HW2.out.1.k2.cell 0).trans rfl
        have g2 : min (t : Int) (t : Int) = (t : Int) := by omega
        have g3 : (t : Int) - (f : Int) = (s : Int) := by omega
        have g4 : (f : Int) + (i : Int) = (K : Int) := by omega
        have hsl : s ≤ 1048576 := by omega
        have hil : i ≤ 1048576 := by omega
        have hfl : f ≤ 1048576 := by omega
        have hKl : K ≤ 1048576 := by omega
        have hKc : K ≤ cap := by omega
        clear hs hi d0 d1 d2
        go_wp2_with fail
        refine (HS.out).mono ?_
        rintro e w3 ⟨rfl, b3⟩
        have e3 : w3.cell? ⟨w.heap.size, 0, none⟩ = some (.slice (some ⟨rb, off, none⟩) t cap) := ((HW2.out.1.k0.later b3).cell 0).trans rfl
        have e4 : w3.cell? ⟨w.heap.size + 1 + 1, 0, none⟩ = some (.int .i64 (f : Int)) := ((HW2.out.1.k2.later b3).cell 0).trans rfl
        have HB3 := Lib.hid b3
        clear b3 e0 e2 g2 g3
        by_cases hKe : cap = K
        · go_wp2
          go_ret
          exact ⟨⟨_, _, rfl, fun h => by omega⟩, below_later HW2.out.2 HB3.out⟩
        · go_wp2
          go_ret
          exact ⟨⟨_, _, rfl, fun _ => ⟨rfl, rfl⟩⟩, below_later HW2.out.2 HB3.out⟩
      · have hlt : n < t := by omega
        obtain ⟨s, hs⟩ : ∃ s, s = n - f := ⟨_, rfl⟩
        obtain ⟨i, hi⟩ : ∃ i, i = K - f := ⟨_, rfl⟩
        have HS := Lib.hid (search9_any (ptr9 (w.heap.size + 1)) (ptr9 w.heap.size) (ptr9 (w.heap.size + 1 + 1)) s (fun h => if hh : f + h < row.length then fp row[f + h] else true) i W2 (by omega) (fun W hb h hh => by
          have hlt : f + h < row.length := by have := HN.out; omega
          rw [dif_pos hlt]
          exact onwardsIn_any HF.out W (HW2.out.1.later hb) HN.out hle hcap h hlt) (fun h h1 h2 => by
          have hlt : f + h < row.length := by have := HN.out; omega
          simp only [dif_pos hlt]
          exact HK.out.1 _ hlt (by omega)) (fun h h1 h2 => by
          have hlt : f + h < row.length := by have := HN.out; omega
          simp only [dif_pos hlt]
          exact HK.out.2 _ hlt (by omega)) (by omega))
        have e0 : W2.cell? ⟨w.heap.size, 0, none⟩ = some (.slice (some ⟨rb, off, none⟩) n cap) := (HW2.out.1.k0.cell 0).trans rfl
        have e2 : W2.cell? ⟨w.heap.size + 1 + 1, 0, none⟩ = some (.int .i64 (f : Int)) := (HW2.out.1.k2.cell 0).trans rfl
        have g2 : min (t : Int) (n : Int) = (n : Int) := by omega
        have g3 : (n : Int) - (f : Int) = (s : Int) := by omega
        have g4 : (f : Int) + (i : Int) = (K : Int) := by omega
        have hsl : s ≤ 1048576 := by omega
        have hil : i ≤ 1048576 := by omega
        have hfl : f ≤ 1048576 := by omega
        have hKl : K ≤ 1048576 := by omega
        have hKc : K ≤ cap := by omega
        clear hs hi d0 d1 d2
        go_wp2_with fail
        refine (HS.out).mono ?_
        rintro e w3 ⟨rfl, b3⟩
        have e3 : w3.cell? ⟨w.heap.size, 0, none⟩ = some (.slice (some ⟨rb, off, none⟩) n cap) := ((HW2.out.1.k0.later b3).cell 0).trans rfl
        have e4 : w3.cell? ⟨w.heap.size + 1 + 1, 0, none⟩ = some (.int .i64 (f : Int)) := ((HW2.out.1.k2.later b3).cell 0).trans rfl
        have HB3 := Lib.hid b3
        clear b3 e0 e2 g2 g3
        by_cases hKe : cap = K
        · go_wp2
          go_ret
          exact ⟨⟨_, _, rfl, fun h => by omega⟩, below_later HW2.out.2 HB3.out⟩
        · go_wp2
          go_ret
          exact ⟨⟨_, _, rfl, fun _ => ⟨rfl, rfl⟩⟩, below_later HW2.out.2 HB3.out⟩
end Go.Proofs.Ytlhigfphfbmbjaa

