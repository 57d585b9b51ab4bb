/- The reference: Firsts; what the reference knows of a row. -/
import Derived.Test.YteipihoebnmagaaN23
namespace Go.Proofs.Yteipihoebnmagaa
open Go.RowKit Go.Proofs.Kit
/-- What the reference is asked about: the row where it is a run, else none. -/
structure Kn (L K : List Pr) : Prop where
  has : ∀ p, hasP L p = decide (p ∈ K)
  betw : ∀ f t, betw L f t = K.filter fun x => !decide (lt2 x f) && decide (lt2 x t)
  secs : ∀ a, secondsP L a = (K.filter fun x => decide (x.1 = a)).map (·.2)
  turn : turnP L = ofP (K.map swapP)
  firsts : firstsP L = dd (K.map (·.1))
  len : K.length ≤ L.length
theorem Kn.yes {L : List Pr} (h : okP L) : Kn L L := by
  refine ⟨hasP_of h, fun f t => ?_, fun a => if_pos h, if_pos h, if_pos h, Nat.le_refl _⟩
  by_cases hft : lt2 f t
  · refine run_ext ?_ (h.1.sub List.filter_sublist) fun p => ?_
    · rw [Go.Proofs.Yteipihoebnmagaa.betw, if_pos ⟨h, hft⟩]
      exact h.1.sub ((List.take_sublist _ _).trans (List.drop_sublist _ _))
    · rw [betw_mem h hft, List.mem_filter]
      simp
  · rw [betw_no fun q => hft q.2]
    symm
    rw [List.filter_eq_nil_iff]
    intro x _
    simp only [Bool.and_eq_true, Bool.not_eq_true', decide_eq_false_iff_not, decide_eq_true_eq, not_and]
    intro h1 h2
    rcases not_lt2 hft with k | k
    · rw [k] at h1; exact h1 h2
    · exact h1 (lt2_trans h2 k)
theorem Kn.no {L : List Pr} (h : ¬ okP L) : Kn L [] := by
  refine ⟨fun p => ?_, fun f t => (betw_no fun q => h q.1).trans (by simp), fun a => (if_neg h).trans (by simp), (if_neg h).trans rfl, (if_neg h).trans rfl, Nat.zero_le _⟩
  rw [hasP, decide_eq_false fun q => h q.1]
  simp
set_option maxRecDepth 100000 in
set_option maxHeartbeats 4000000 in
theorem dfirsts_any (v : Value) (l : List Pr) (w : World) (hs : SegP w v l) (hl : l.length ≤ 1000) :
    Calls Try.prog 28 #[v] w fun e w' => ∃ v', e = .returned v' ∧ Owns .u64 28 w.heap.size w' v' (dd (l.map (·.1))) ∧ Below w.heap.size w w' := by
  have hmix := mixed
  obtain ⟨i0, hi, hz0, hz1, hz2⟩ := infou
  have hl62 := hs.1
  obtain ⟨o, c, rfl, _, _, _⟩ := hs.shape
  obtain ⟨n, hn⟩ : ∃ n, n = l.length := ⟨_, rfl⟩
  rw [← hn] at hl62 hl hs ⊢
  have HN := Lib.hid hn
  have HS := Lib.hid hs
  clear hn hs
  go_enter Try.func28, Try.ntmps28
  go_wp2
  go_loopw [3, 8] (fun s i wr => ∃ k : Nat, k ≤ n ∧ i = .int .i64 (k : Int) ∧ Hid (Owns .u64 28 w.heap.size wr s (dd ((l.map (·.1)).take k))) ∧ Below w.heap.size w wr) (fun _ i _ => n - (intOf i).toNat)
  case atStart => exact ⟨0, by omega, rfl, Lib.hid (by simpa [dd] using Owns.nil _ _ _ _), Below.refl _ _⟩
  case round =>
    obtain ⟨k, hk, rfl, HO, hB⟩ := hrel
    by_cases hlt : k < n
    · have hkl : k < l.length := by have := HN.out; omega
      obtain ⟨b, f, rfl, hb, hcells⟩ := (HS.out.later hB).has hkl
      obtain ⟨d1, d2⟩ := hcells k hkl
      have hlen := dd_len ((l.map (·.1)).take k)
      have hlen2 : (dd ((l.map (·.1)).take k)).length ≤ 1000 := by rw [List.length_take] at hlen; omega
      have hcases : (k = 0 ∧ dd ((l.map (·.1)).take (k + 1)) = dd ((l.map (·.1)).take k) ++ [l[k].1]) ∨ ∃ j, ∃ hj : j + 1 < l.length, k = j + 1 ∧ (dd ((l.map (·.1)).take (k + 1)) = if l[j].1 = l[k].1 then dd ((l.map (·.1)).take k) else dd ((l.map (·.1)).take k) ++ [l[k].1]) := by
        cases k with
        | zero => exact .inl ⟨rfl, by rw [List.take_succ_eq_append_getElem (by simpa using hkl)]; simp [dd]⟩
        | succ j => exact .inr ⟨j, hkl, rfl, by have := dd_take_next (l := l.map (·.1)) (j := j) (by simpa using hkl); simpa using this⟩
      obtain ⟨x, hx⟩ : ∃ x, x = l[k] := ⟨_, rfl⟩
      rw [← hx] at d1 d2 hcases
      clear hx hlen
      obtain ⟨x1, x2⟩ := x
      simp only at d1 d2 hcases
      obtain ⟨M, hM⟩ : ∃ M, M = dd ((l.map (·.1)).take k) := ⟨_, rfl⟩
      rw [← hM] at HO hlen2 hcases
      clear hM
      have hcs : (k = 0 ∧ Hid (dd ((l.map (·.1)).take (k + 1)) = M ++ [x1])) ∨ (∃ j y, k = j + 1 ∧ wr.cell? ⟨b, f + j * 2, none⟩ = some (.int .u64 y) ∧ y ≠ x1 ∧ Hid (dd ((l.map (·.1)).take (k + 1)) = M ++ [x1])) ∨ (∃ j y, k = j + 1 ∧ wr.cell? ⟨b, f + j * 2, none⟩ = some (.int .u64 y) ∧ y = x1 ∧ Hid (dd ((l.map (·.1)).take (k + 1)) = M)) := by
        rcases hcases with ⟨h0, h1⟩ | ⟨j, hj, h0, h1⟩
        · exact .inl ⟨h0, Lib.hid h1⟩
        · have c1 := (hcells j (by omega)).1
          by_cases e : l[j].1 = x1
          · rw [if_pos e] at h1
            exact .inr (.inr ⟨j, _, h0, c1, e, Lib.hid h1⟩)
          · rw [if_neg e] at h1
            exact .inr (.inl ⟨j, _, h0, c1, e, Lib.hid h1⟩)
      clear hcases hcells
      have b2 : Below w.heap.size w (wr.alloc (.cells #[.int .u64 x1, .int .u64 x2] 30)) := hB.alloc hB.size _
      have HO2 := Lib.hid (HO.out.alloc (.cells #[.int .u64 x1, .int .u64 x2] 30))
      have HB2 := Lib.hid b2
      clear HO b2
      rcases hcs with ⟨rfl, HFT⟩ | ⟨j, y, rfl, dy, hy, HFT⟩ | ⟨j, y, rfl, dy, rfl, HFT⟩
      · simp only [Nat.zero_mul, Nat.add_zero] at d1 d2
        go_wp2_with fail
        go_quiet (fail)
        have HB3 := Lib.hid (below_drN HB2.out nq)
        have e0 : (((wr.alloc (.cells #[.int .u64 x1, .int .u64 x2] 30)).drewN nq)).cell? ⟨wr.heap.size, 0, none⟩ = some (.int .u64 x1) := (Blk.new wr #[.int .u64 x1, .int .u64 x2] 30).cell 0
        have hsg := Seg.one (k := .u64) (w := (wr.alloc (.cells #[.int .u64 x1, .int .u64 x2] 30)).drewN nq) (t := 28) x1
        rw [show ((wr.alloc (.cells #[.int .u64 x1, .int .u64 x2] 30)).drewN nq).heap.size = wr.heap.size + 1 from by show (wr.alloc (.cells #[.int .u64 x1, .int .u64 x2] 30)).heap.size = _; simp] at hsg
        have HSG := Lib.hid hsg
        have HO3 := Lib.hid ((HO2.out.drewN nq).alloc (.cells #[.int .u64 x1] 28))
        clear hsg d1 d2
        go_wp2_with (at_builtin; refine wpList_append_seg rfl _ _ 36 rfl .u64 w.heap.size 28 i0 (.int .u64 0) 8 Try.underlying36 hi hz0 hz1 hz2 rfl _ _ rfl HO3.out _ [x1] rfl HSG.out ?qa ?qb ?qc ?_)
        case qa => simp only [List.length_cons, List.length_nil]; omega
        case qb => simp only [List.length_cons, List.length_nil]; omega
        case qc => have := hB.size; simp; omega
        intro v3 w3 hO3 hb3
        have O3 := Lib.hid hO3
        clear hO3 e0
        go_wp2
        go_roundw
        case rel => exact ⟨1, by omega, by go_num, Lib.hid (by have h := HFT.out; rw [Nat.zero_add] at h; rw [h]; simpa using O3.out), (HB3.out.alloc HB3.out.size _).trans hb3⟩
        case measure => simp [intOf]; omega
      · have t1 : (y != x1) = true := by simpa using hy
        clear hy
        have q1 : IntKind.i64.wrap (j : Int) = (j : Int) := by rw [IntKind.wrap_i64]; omega
        have q2 : (j : Int) + 1 < (n : Int) := by omega
        have q3 : (j : Int) < (n : Int) := by omega
        have q4 : (0 : Int) ≤ (j : Int) + 1 := by omega
        have q5 : ((j : Int) + 1).toNat = j + 1 := by omega
        go_wp2_with fail
        go_quiet (fail)
        have HB3 := Lib.hid (below_drN HB2.out nq)
        have e0 : (((wr.alloc (.cells #[.int .u64 x1, .int .u64 x2] 30)).drewN nq)).cell? ⟨wr.heap.size, 0, none⟩ = some (.int .u64 x1) := (Blk.new wr #[.int .u64 x1, .int .u64 x2] 30).cell 0
        have hsg := Seg.one (k := .u64) (w := (wr.alloc (.cells #[.int .u64 x1, .int .u64 x2] 30)).drewN nq) (t := 28) x1
        rw [show ((wr.alloc (.cells #[.int .u64 x1, .int .u64 x2] 30)).drewN nq).heap.size = wr.heap.size + 1 from by show (wr.alloc (.cells #[.int .u64 x1, .int .u64 x2] 30)).heap.size = _; simp] at hsg
        have HSG := Lib.hid hsg
        have HO3 := Lib.hid ((HO2.out.drewN nq).alloc (.cells #[.int .u64 x1] 28))
        clear hsg d1 d2
        go_wp2_with (at_builtin; refine wpList_append_seg rfl _ _ 36 rfl .u64 w.heap.size 28 i0 (.int .u64 0) 8 Try.underlying36 hi hz0 hz1 hz2 rfl _ _ rfl HO3.out _ [x1] rfl HSG.out ?qa ?qb ?qc ?_)
        case qa => simp only [List.length_cons, List.length_nil]; omega
        case qb => simp only [List.length_cons, List.length_nil]; omega
        case qc => have := hB.size; simp; omega
        intro v3 w3 hO3 hb3
        have O3 := Lib.hid hO3
        clear hO3 e0
        go_wp2
        go_roundw
        case rel => exact ⟨j + 1 + 1, by omega, by go_num, Lib.hid (by rw [HFT.out]; simpa using O3.out), (HB3.out.alloc HB3.out.size _).trans hb3⟩
        case measure => simp [intOf]; omega
      · have t1 : (y != y) = false := by simp
        have q1 : IntKind.i64.wrap (j : Int) = (j : Int) := by rw [IntKind.wrap_i64]; omega
        have q2 : (j : Int) + 1 < (n : Int) := by omega
        have q3 : (j : Int) < (n : Int) := by omega
        have q4 : (0 : Int) ≤ (j : Int) + 1 := by omega
        have q5 : ((j : Int) + 1).toNat = j + 1 := by omega
        go_wp2_with fail
        go_quiet (fail)
        have HB3 := Lib.hid (below_drN HB2.out nq)
        have HO3 := Lib.hid (HO2.out.drewN nq)
        clear d1 d2
        go_wp2
        go_roundw
        case rel => exact ⟨j + 1 + 1, by omega, by go_num, Lib.hid (by rw [HFT.out]; exact HO3.out), HB3.out⟩
        case measure => simp [intOf]; omega
    · have hO := HO.out
      rw [List.take_of_length_le (by have := HN.out; simp; omega)] at hO
      have HO := Lib.hid hO
      clear hO
      go_wp2
      go_ret
      exact ⟨_, rfl, HO.out, hB⟩
end Go.Proofs.Yteipihoebnmagaa
