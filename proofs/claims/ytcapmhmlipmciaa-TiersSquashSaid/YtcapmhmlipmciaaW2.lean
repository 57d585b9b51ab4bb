/- few of stage 11's laws; tiers.copyOf; the tier's type. -/
import Derived.Test.YtcapmhmlipmciaaW1
import Derived.Test.YtcapmhmlipmciaaN4
import Derived.Test.YtcapmhmlipmciaaKitB
namespace Go.Proofs.Ytcapmhmlipmciaa
open Go.RowKit Go.Proofs.Kit
set_option maxRecDepth 100000 in
set_option maxHeartbeats 1000000 in
theorem copyOf_any (v : Value) (l : List Pr) (w : World) (hs : SegP w v l) (hl : l.length ≤ 1000000000) :
    Calls Try.prog 62 #[v] w fun e w' => ∃ v', e = .returned v' ∧ OwnP 36 w.heap.size w' v' l ∧ Below w.heap.size w w' := by
  obtain ⟨i0, hi, hz0, hz1, hz2⟩ := infoP
  obtain ⟨o, c, rfl, hc, hm, _⟩ := hs.shape
  have HS := Lib.hid hs
  obtain ⟨n, hn⟩ : ∃ n, n = l.length := ⟨_, rfl⟩
  rw [← hn] at HS hl ⊢
  have HN := Lib.hid hn
  clear hn hs hc
  go_enter Try.func62, Try.ntmps62
  go_wp2_with (refine wpList_make_full _ rfl _ _ _ rfl w.heap.size 36 i0 (.agg #[.int .u64 0, .int .u64 0]) 2 Try.underlying23 hi hz0 hz1 .i64 .i64 _ _ n rfl rfl rfl rfl ?ma ?mb ?mc ?_)
  case ma => rw [hz2]; omega
  case mb => unfold maxLen; omega
  case mc => exact Nat.le_refl _
  intro w1 ho1 hg1
  have hb1 : Below w.heap.size w w1 := (Below.refl _ _).grown hg1 (Nat.le_refl _) (fun _ h => by cases h)
  have hO : OwnP 36 w.heap.size w1 (.slice (some ⟨w.heap.size, 0, none⟩) n n) (zeros n) := by
    have e : (zeros n).length = n := by simp [zeros]
    refine ⟨by rw [e]; omega, ?_⟩
    rw [e, ← madeCells_zeros]
    exact ho1
  have HO := Lib.hid hO
  have HS1 := Lib.hid (HS.out.later hb1)
  clear ho1 hO hg1
  go_wp2_with (with_reducible refine wpList_copyP rfl _ _ 23 23 rfl 36 Try.underlying23 sizeP w.heap.size _ _ HO.out rfl _ _ HS1.out rfl ?ca ?_)
  case ca => rw [← HN.out]; simp [zeros]
  rw [← HN.out]
  intro w2 hO2 hb2
  go_wp2
  go_ret
  exact ⟨_, rfl, hO2, hb1.trans hb2⟩
set_option maxRecDepth 100000 in
set_option maxHeartbeats 1000000 in
theorem few11_any (o : Option Addr) (n c : Nat) (l : List Pr) (w : World) (hl : l.length = n) (hc : n ≤ c) (hm : c ≤ 9223372036854775807) (h : ArgP w o c l) :
    Calls Try.prog 22 #[.slice o n c] w fun e w' => ∃ v', e = .returned v' ∧ OwnP 36 w.heap.size w' v' (l.take 16) ∧ Below w.heap.size w w' := by
  have HL := Lib.hid hl; clear hl
  have HA := Lib.hid h; clear h
  by_cases h3 : n ≤ 16
  · go_enter Try.func22, Try.ntmps22
    go_wp2_with fail
    refine (cloneP_any o n c (l.take 16) _ (by have := HL.out; simp; omega) (by omega) (HA.out.take 16)).mono ?_
    rintro e w' ⟨v', rfl, ho, hb⟩
    go_wp2
    go_ret
    exact ⟨v', rfl, ho, hb⟩
  · go_enter Try.func22, Try.ntmps22
    go_wp2_with fail
    refine (cloneP_any o 16 c (l.take 16) _ (by have := HL.out; simp; omega) (by omega) (HA.out.take 16)).mono ?_
    rintro e w' ⟨v', rfl, ho, hb⟩
    go_wp2
    go_ret
    exact ⟨v', rfl, ho, hb⟩
theorem infoT : ∃ i, Try.prog.info? 38 = some i ∧ i.zero = some (.agg #[.slice none 0 0, .slice none 0 0]) ∧ i.size = 2 ∧ i.bytes = 48 := info_parts (by kernel_rfl)
theorem tPT : (36 : Nat) ≠ 38 := by decide
end Go.Proofs.Ytcapmhmlipmciaa

