/- run.gather; pair's methods; run.cut; Firsts, Seconds, Turn. -/
import Derived.Test.YtbanemaiiifcaaaN6
import Derived.Test.YtbanemaiiifcaaaN4
import Derived.Test.YtbanemaiiifcaaaN8
namespace Go.Proofs.Kit
open Go.RowKit
theorem SegP.one {w : World} {t : TypeId} (a b : Int) : SegP (w.alloc (.cells #[.int .u64 a, .int .u64 b] t)) (.slice (some ⟨w.heap.size, 0, none⟩) 1 1) [(a, b)] :=
  SegP.of_blk (Blk.new _ _ _) (by simp) (by omega) (by simp [flat])
end Go.Proofs.Kit
namespace Go.Proofs.Ytbanemaiiifcaaa
open Go.RowKit Go.Proofs.Kit

set_option maxRecDepth 100000 in
set_option maxHeartbeats 400000 in
theorem first_any (a b : Int) (w : World) : Calls Try.prog 55 #[PV a b] w fun e w' => e = .returned (.int .u64 a) ∧ Gr w w' := by
  go_enter Try.func55, Try.ntmps55
  go_wp2
  go_ret
  exact ⟨rfl, Gr.alloc _ _⟩
set_option maxRecDepth 100000 in
set_option maxHeartbeats 400000 in
theorem second_any (a b : Int) (w : World) : Calls Try.prog 57 #[PV a b] w fun e w' => e = .returned (.int .u64 b) ∧ Gr w w' := by
  go_enter Try.func57, Try.ntmps57
  go_wp2
  go_ret
  exact ⟨rfl, Gr.alloc _ _⟩
theorem infou : ∃ i, Try.prog.info? 40 = some i ∧ i.zero = some (.int .u64 0) ∧ i.size = 1 ∧ i.bytes = 8 := info_parts (by kernel_rfl)
set_option maxRecDepth 100000 in
set_option maxHeartbeats 2000000 in
theorem gather_first (v : Value) (l : List Pr) (w : World) (hs : SegP w v l) (hn : l.length ≤ 1048576) :
    Calls Try.prog 54 #[v, .func (.func 55) #[] #[]] w fun e w' => ∃ v', e = .returned v' ∧ Owns .u64 40 w.heap.size w' v' (l.map (·.1)) ∧ Below w.heap.size w w' := by
  obtain ⟨i0, hi, hz0, hz1, hz2⟩ := infou
  obtain ⟨o, c, rfl, _, _, hsh⟩ := hs.shape
  have HSH := Lib.hid hsh
  obtain ⟨n, hnl⟩ : ∃ n, n = l.length := ⟨_, rfl⟩
  rw [← hnl] at hn ⊢
  have HN := Lib.hid hnl
  clear hs hsh hnl
  go_enter Try.func54, Try.ntmps54
  go_wp2_with (refine wpList_make_own _ rfl _ _ _ rfl w.heap.size 40 i0 (.int .u64 0) 1 Try.underlying24 hi hz0 hz1 .i64 .i64 _ n rfl rfl rfl ?ma ?mb ?mc ?_)
  case ma => rw [hz2]; omega
  case mb => unfold maxLen; omega
  case mc => exact Nat.le_refl _
  intro w1 ho1 hg1
  have hb1 : Below w.heap.size w w1 := (Below.refl _ _).grown hg1 (Nat.le_refl _) (fun _ h => by cases h)
  have HO := Lib.hid (show Owns .u64 40 w.heap.size w1 (.slice (some ⟨w.heap.size, 0, none⟩) 0 n) [] from ho1)
  clear ho1 hg1
  go_wp2
  go_loopw [5, 13] (fun s i wr => ∃ k : Nat, k ≤ n ∧ i = .int .i64 (k : Int) ∧ Hid (Owns .u64 40 w.heap.size wr s ((l.take k).map (·.1))) ∧ Below w.heap.size w wr) (fun _ i _ => n - (intOf i).toNat)
  case atStart => exact ⟨0, by omega, rfl, HO, hb1⟩
  case round =>
    obtain ⟨k, hk, rfl, HOK, hB⟩ := hrel
    by_cases hlt : k < n
    · have hkl : k < l.length := by have := HN.out; omega
      obtain ⟨b, f, rfl, hb, hcells⟩ := HSH.out.resolve_left (fun e => by rw [e] at hkl; simp at hkl)
      obtain ⟨d1, d2⟩ := (hcells.below hB hb) k hkl
      have hbr : b < wr.heap.size := Nat.lt_of_lt_of_le hb hB.size
      have hts : (l.take (k + 1)).map (·.1) = (l.take k).map (·.1) ++ [l[k].1] := by rw [List.take_succ_eq_append_getElem hkl, List.map_append]; rfl
      obtain ⟨x, hx⟩ : ∃ x, x = l[k] := ⟨_, rfl⟩
      rw [← hx] at d1 d2 hts
      have HTS := Lib.hid hts
      clear hx hts hcells
      obtain ⟨a, b'⟩ := x
      simp only at d1 d2
      go_wp2_with fail
      refine (first_any a b' _).mono ?_
      rintro e w2 ⟨rfl, g2⟩
      have b2 : Below w.heap.size w w2 := hB.trans (((Below.refl _ _).alloc hB.size _).trans (g2.below.mono (by have := hB.size; simp; omega)))
      have o2 : Owns .u64 40 w.heap.size w2 _ ((l.take k).map (·.1)) := (HOK.out.alloc _).later g2.below
      have HO2 := Lib.hid (o2.alloc (.cells #[.int .u64 ((a, b').1)] 40))
      have HSG := Lib.hid (Seg.one (k := .u64) (w := w2) (t := 40) ((a, b').1))
      simp only at HO2 HSG
      clear o2 g2 d1 d2
      go_wp2_with (at_builtin; refine wpList_append_seg rfl _ _ 24 rfl .u64 w.heap.size 40 i0 (.int .u64 0) 8 Try.underlying24 hi hz0 hz1 hz2 rfl _ _ rfl HO2.out _ [a] rfl HSG.out ?qa ?qb ?qc ?_)
      case qa => simp; omega
      case qb => simp; omega
      case qc => have := b2.size; simp; omega
      intro v3 w3 hO3 hb3
      go_wp2
      go_roundw
      case rel =>
        refine ⟨k + 1, by omega, by go_num, Lib.hid ?_, (b2.alloc b2.size _).trans hb3⟩
        rw [HTS.out, List.map_take]
        exact hO3
      case measure => simp [intOf]; omega
    · go_wp2
      go_ret
      refine ⟨_, rfl, ?_, hB⟩
      have h := HOK.out
      rw [List.take_of_length_le (by have := HN.out; omega)] at h
      exact h
set_option maxRecDepth 100000 in
set_option maxHeartbeats 2000000 in
theorem gather_second (v : Value) (l : List Pr) (w : World) (hs : SegP w v l) (hn : l.length ≤ 1048576) :
    Calls Try.prog 54 #[v, .func (.func 57) #[] #[]] w fun e w' => ∃ v', e = .returned v' ∧ Owns .u64 40 w.heap.size w' v' (l.map (·.2)) ∧ Below w.heap.size w w' := by
  obtain ⟨i0, hi, hz0, hz1, hz2⟩ := infou
  obtain ⟨o, c, rfl, _, _, hsh⟩ := hs.shape
  have HSH := Lib.hid hsh
  obtain ⟨n, hnl⟩ : ∃ n, n = l.length := ⟨_, rfl⟩
  rw [← hnl] at hn ⊢
  have HN := Lib.hid hnl
  clear hs hsh hnl
  go_enter Try.func54, Try.ntmps54
  go_wp2_with (refine wpList_make_own _ rfl _ _ _ rfl w.heap.size 40 i0 (.int .u64 0) 1 Try.underlying24 hi hz0 hz1 .i64 .i64 _ n rfl rfl rfl ?ma ?mb ?mc ?_)
  case ma => rw [hz2]; omega
  case mb => unfold maxLen; omega
  case mc => exact Nat.le_refl _
  intro w1 ho1 hg1
  have hb1 : Below w.heap.size w w1 := (Below.refl _ _).grown hg1 (Nat.le_refl _) (fun _ h => by cases h)
  have HO := Lib.hid (show Owns .u64 40 w.heap.size w1 (.slice (some ⟨w.heap.size, 0, none⟩) 0 n) [] from ho1)
  clear ho1 hg1
  go_wp2
  go_loopw [5, 13] (fun s i wr => ∃ k : Nat, k ≤ n ∧ i = .int .i64 (k : Int) ∧ Hid (Owns .u64 40 w.heap.size wr s ((l.take k).map (·.2))) ∧ Below w.heap.size w wr) (fun _ i _ => n - (intOf i).toNat)
  case atStart => exact ⟨0, by omega, rfl, HO, hb1⟩
  case round =>
    obtain ⟨k, hk, rfl, HOK, hB⟩ := hrel
    by_cases hlt : k < n
    · have hkl : k < l.length := by have := HN.out; omega
      obtain ⟨b, f, rfl, hb, hcells⟩ := HSH.out.resolve_left (fun e => by rw [e] at hkl; simp at hkl)
      obtain ⟨d1, d2⟩ := (hcells.below hB hb) k hkl
      have hbr : b < wr.heap.size := Nat.lt_of_lt_of_le hb hB.size
      have hts : (l.take (k + 1)).map (·.2) = (l.take k).map (·.2) ++ [l[k].2] := by rw [List.take_succ_eq_append_getElem hkl, List.map_append]; rfl
      obtain ⟨x, hx⟩ : ∃ x, x = l[k] := ⟨_, rfl⟩
      rw [← hx] at d1 d2 hts
      have HTS := Lib.hid hts
      clear hx hts hcells
      obtain ⟨a, b'⟩ := x
      simp only at d1 d2
      go_wp2_with fail
      refine (second_any a b' _).mono ?_
      rintro e w2 ⟨rfl, g2⟩
      have b2 : Below w.heap.size w w2 := hB.trans (((Below.refl _ _).alloc hB.size _).trans (g2.below.mono (by have := hB.size; simp; omega)))
      have o2 : Owns .u64 40 w.heap.size w2 _ ((l.take k).map (·.2)) := (HOK.out.alloc _).later g2.below
      have HO2 := Lib.hid (o2.alloc (.cells #[.int .u64 ((a, b').2)] 40))
      have HSG := Lib.hid (Seg.one (k := .u64) (w := w2) (t := 40) ((a, b').2))
      simp only at HO2 HSG
      clear o2 g2 d1 d2
      go_wp2_with (at_builtin; refine wpList_append_seg rfl _ _ 24 rfl .u64 w.heap.size 40 i0 (.int .u64 0) 8 Try.underlying24 hi hz0 hz1 hz2 rfl _ _ rfl HO2.out _ [b'] rfl HSG.out ?qa ?qb ?qc ?_)
      case qa => simp; omega
      case qb => simp; omega
      case qc => have := b2.size; simp; omega
      intro v3 w3 hO3 hb3
      go_wp2
      go_roundw
      case rel =>
        refine ⟨k + 1, by omega, by go_num, Lib.hid ?_, (b2.alloc b2.size _).trans hb3⟩
        rw [HTS.out, List.map_take]
        exact hO3
      case measure => simp [intOf]; omega
    · go_wp2
      go_ret
      refine ⟨_, rfl, ?_, hB⟩
      have h := HOK.out
      rw [List.take_of_length_le (by have := HN.out; omega)] at h
      exact h
/-! ### cut -/
set_option maxRecDepth 100000 in
/-- A slice's part. -/
theorem cut_any (v : Value) (l : List Pr) (p q : Nat) (w : World) (hs : SegP w v l) (hp : p ≤ q) (hq : q ≤ l.length) :
    Calls Try.prog 56 #[v, .int .i64 (p : Int), .int .i64 (q : Int)] w fun e w' => (∃ v', e = .returned v' ∧ SegP w v' ((l.drop p).take (q - p))) ∧ w = w' := by
  have hl62 := hs.1
  rcases hs.2 with ⟨rfl, rfl⟩ | ⟨b, f, c, rfl, hc, hm, hb, hcells⟩
  · obtain rfl : q = 0 := by simpa using hq
    obtain rfl : p = 0 := by omega
    go_enter Try.func56, Try.ntmps56
    go_wp2
    go_ret
    exact ⟨⟨_, rfl, by simpa using SegP.nil w⟩, rfl⟩
  · obtain ⟨n, hnl⟩ : ∃ n, n = l.length := ⟨_, rfl⟩
    have HS := Lib.hid hs
    rw [← hnl] at hq hc hl62 ⊢
    have HN := Lib.hid hnl
    have HC := Lib.hid hcells
    clear hs hcells hnl
    have i1 : (p : Int) ≤ (q : Int) := by omega
    have i2 : q ≤ c := by omega
    by_cases hpq : p = q
    · subst hpq
      clear i1 hp
      go_enter Try.func56, Try.ntmps56
      go_wp2
      go_ret
      refine ⟨⟨_, rfl, ?_⟩, rfl⟩
      rw [Nat.sub_self, List.take_zero]
      exact ⟨by simp, .inr ⟨b, _, 0, rfl, by simp, by omega, hb, fun i hi => by simp at hi⟩⟩
    · have i3 : p < q := by omega
      go_enter Try.func56, Try.ntmps56
      go_wp2
      go_ret
      refine ⟨⟨_, rfl, ?_⟩, rfl⟩
      have h := HS.out
      exact h.sub (c' := q - p) hp (by have := HN.out; omega) (by omega) (by omega)
end Go.Proofs.Ytbanemaiiifcaaa

