/- The reference: Kept, Between, Firsts, Seconds. -/
import Derived.Test.YtcapmhmlipmciaaN20
namespace Go.Proofs.Ytcapmhmlipmciaa
open Go.RowKit Go.Proofs.Kit
theorem dd_take_next {l : List Int} {j : Nat} (hk : j + 1 < l.length) : dd (l.take (j + 1 + 1)) = if l[j]'(by omega) = l[j + 1] then dd (l.take (j + 1)) else dd (l.take (j + 1)) ++ [l[j + 1]] := by
  have := dd_take_succ (l := l) (k := j + 1) (by omega) hk
  simpa using this
set_option maxRecDepth 100000 in
set_option maxHeartbeats 2000000 in
theorem dkept_any (v : Value) (l : List Pr) (vb : Value) (m : List Pr) (h : Bool) (w : World) (hs : SegP w v l) (hl : l.length ≤ 1000) (hsb : SegP w vb m) :
    Calls Try.prog 25 #[v, vb, .bool h] w fun e w' => ∃ v', e = .returned v' ∧ OwnP 36 w.heap.size w' v' (l.filter fun x => decide (x ∈ m) == h) ∧ Below w.heap.size w w' := by
  obtain ⟨i0, hi, hz0, hz1, hz2⟩ := infoP
  obtain ⟨ob, cb, rfl, _, _, _⟩ := hsb.shape
  have HSB := Lib.hid hsb
  clear hsb
  have hl62 := hs.1
  obtain ⟨o, c, rfl, _, _, _⟩ := hs.shape
  obtain ⟨n, hn⟩ : ∃ n, n = l.length := ⟨_, rfl⟩
  rw [← hn] at hl62 hl hs ⊢
  have HN := Lib.hid hn
  have HS := Lib.hid hs
  clear hn hs
  go_enter Try.func25, Try.ntmps25
  go_wp2
  go_loopw [7, 12] (fun s i wr => ∃ k : Nat, k ≤ n ∧ i = .int .i64 (k : Int) ∧ Hid (OwnP 36 w.heap.size wr s ((l.take k).filter fun x => decide (x ∈ m) == h)) ∧ Below w.heap.size w wr) (fun _ i _ => n - (intOf i).toNat)
  case atStart => exact ⟨0, by omega, rfl, Lib.hid (by simpa using OwnP.nil _ _ _), Below.refl _ _⟩
  case round =>
    obtain ⟨k, hk, rfl, HO, hB⟩ := hrel
    by_cases hlt : k < n
    · have hkl : k < l.length := by have := HN.out; omega
      obtain ⟨b, f, rfl, hb, hcells⟩ := (HS.out.later hB).has hkl
      obtain ⟨d1, d2⟩ := hcells k hkl
      have hft := filt_take (q := fun x => decide (x ∈ m) == h) hkl
      have hlen := List.length_filter_le (fun x => decide (x ∈ m) == h) (l.take k)
      rw [List.length_take] at hlen
      obtain ⟨x, hx⟩ : ∃ x, x = l[k] := ⟨_, rfl⟩
      rw [← hx] at d1 d2 hft
      clear hx hcells
      obtain ⟨x1, x2⟩ := x
      simp only at d1 d2
      obtain ⟨t, ht⟩ : ∃ t, decide ((x1, x2) ∈ m) = t := ⟨_, rfl⟩
      rw [ht] at hft
      have HT := Lib.hid ht
      obtain ⟨M, hM⟩ : ∃ M, M = (l.take k).filter fun x => decide (x ∈ m) == h := ⟨_, rfl⟩
      rw [← hM] at HO hlen hft
      have HFT0 := Lib.hid hft
      clear ht hft hM
      go_wp2_with fail
      refine (dhas_is _ m _ ((HSB.out.later hB).alloc _) x1 x2 t HT.out).mono ?_
      rintro e w2 ⟨rfl, g2⟩
      have bx := (Blk.new wr #[.int .u64 x1, .int .u64 x2] 36).later g2.below
      have b2 : Below w.heap.size w w2 := (hB.alloc hB.size _).trans (g2.below.mono (by have := hB.size; simp; omega))
      have o2 : OwnP 36 w.heap.size w2 _ M := (HO.out.alloc _).later g2.below
      have e0 := bx.cell 0
      have e1 := bx.cell 1
      have lx := bx.lt
      simp only [List.getElem?_toArray, List.getElem?_cons_zero, List.getElem?_cons_succ] at e0 e1
      clear d1 d2 g2 bx
      by_cases hth : t = h
      · subst hth
        have HFT : Hid ((l.take (k + 1)).filter (fun x => decide (x ∈ m) == t) = M ++ [(x1, x2)]) := Lib.hid (by rw [HFT0.out]; simp)
        cases t
        all_goals
          have HO2 := Lib.hid (o2.alloc (.cells #[.int .u64 x1, .int .u64 x2] 36))
          have HSG := Lib.hid (SegP.one (w := w2) (t := 36) x1 x2)
          clear o2
          go_wp2_with (at_builtin; refine wpList_append_segP rfl _ _ 23 rfl w.heap.size 36 i0 (.agg #[.int .u64 0, .int .u64 0]) Try.underlying23 hi hz0 hz1 hz2 rfl _ _ rfl HO2.out _ [(x1, x2)] rfl HSG.out ?qa ?qb ?_)
          case qa => simp only [List.length_cons, List.length_nil]; omega
          case qb => have := b2.size; simp; omega
          intro v3 w3 hO3 hb3 _ _
          have O3 := Lib.hid hO3
          clear hO3 e0 e1 lx
          go_wp2
          go_roundw
          case rel => exact ⟨k + 1, by omega, by go_num, Lib.hid (by rw [HFT.out]; simpa using O3.out), (b2.alloc b2.size _).trans hb3⟩
          case measure => simp [intOf]; omega
      · have t0 : (t == h) = false := by simpa using hth
        have HFT : Hid ((l.take (k + 1)).filter (fun x => decide (x ∈ m) == h) = M) := Lib.hid (by rw [HFT0.out, t0]; simp)
        clear hth
        have O2 := Lib.hid o2
        clear o2 e0 e1 lx
        go_wp2
        go_roundw
        case rel => exact ⟨k + 1, by omega, by go_num, Lib.hid (by rw [HFT.out]; simpa using O2.out), b2⟩
        case measure => simp [intOf]; omega
    · have hO := HO.out
      rw [List.take_of_length_le (by have := HN.out; omega)] at hO
      have HO := Lib.hid hO
      clear hO
      go_wp2
      go_ret
      exact ⟨_, rfl, HO.out, hB⟩
end Go.Proofs.Ytcapmhmlipmciaa

