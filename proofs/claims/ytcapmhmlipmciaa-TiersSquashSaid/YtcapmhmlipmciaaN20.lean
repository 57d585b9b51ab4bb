/- The reference: Of, Union, Turn, Kept, Between, Firsts, Seconds. -/
import Derived.Test.YtcapmhmlipmciaaN19
import Derived.Test.YtcapmhmlipmciaaN16
import Derived.Test.YtcapmhmlipmciaaN17
namespace Go.Proofs.Ytcapmhmlipmciaa
open Go.RowKit Go.Proofs.Kit
theorem ofP_snoc (l : List Pr) (x : Pr) : ofP (l ++ [x]) = withP (ofP l) x := by unfold ofP; rw [List.foldl_append]; rfl
theorem ofP_take {l : List Pr} {k : Nat} (hk : k < l.length) : ofP (l.take (k + 1)) = withP (ofP (l.take k)) l[k] := by rw [List.take_succ_eq_append_getElem hk, ofP_snoc]
theorem ofP_take2 {a l : List Pr} {k : Nat} (hk : k < l.length) : ofP (a ++ l.take (k + 1)) = withP (ofP (a ++ l.take k)) l[k] := by rw [List.take_succ_eq_append_getElem hk, ← List.append_assoc, ofP_snoc]
theorem ofP_takes {l : List Pr} {k : Nat} (hk : k < l.length) : ofP ((l.take (k + 1)).map swapP) = withP (ofP ((l.take k).map swapP)) (swapP l[k]) := by rw [List.take_succ_eq_append_getElem hk, List.map_append, List.map_cons, List.map_nil, ofP_snoc]

set_option maxRecDepth 100000 in
set_option maxHeartbeats 2000000 in
theorem dof_any (v : Value) (l : List Pr) (w : World) (hs : SegP w v l) (hl : l.length ≤ 1000) :
    Calls Try.prog 68 #[v] w fun e w' => ∃ v', e = .returned v' ∧ OwnP 36 w.heap.size w' v' (ofP l) ∧ Below w.heap.size w w' := by
  have hl62 := hs.1
  obtain ⟨o, c, rfl, _, _, _⟩ := hs.shape
  obtain ⟨n, hn⟩ : ∃ n, n = l.length := ⟨_, rfl⟩
  rw [← hn] at hl62 hl hs ⊢
  have HN := Lib.hid hn
  have HS := Lib.hid hs
  clear hn hs
  go_enter Try.func68, Try.ntmps68
  go_wp2
  go_loopw [3, 8] (fun s i wr => ∃ k : Nat, k ≤ n ∧ i = .int .i64 (k : Int) ∧ Hid (OwnP 36 w.heap.size wr s (ofP (l.take k))) ∧ Below w.heap.size w wr) (fun _ i _ => n - (intOf i).toNat)
  case atStart => exact ⟨0, by omega, rfl, Lib.hid (by simpa [ofP] using OwnP.nil _ _ _), Below.refl _ _⟩
  case round =>
    obtain ⟨k, hk, rfl, HO, hB⟩ := hrel
    by_cases hlt : k < n
    · have hkl : k < l.length := by have := HN.out; omega
      obtain ⟨b, f, rfl, hb, hcells⟩ := (HS.out.later hB).has hkl
      obtain ⟨d1, d2⟩ := hcells k hkl
      have hst := ofP_take hkl
      have hlen : (ofP (l.take k)).length ≤ 1000000 := by have h1 := ofP_len (l.take k); rw [List.length_take] at h1; omega
      obtain ⟨x, hx⟩ : ∃ x, x = l[k] := ⟨_, rfl⟩
      rw [← hx] at d1 d2 hst
      clear hx hcells
      obtain ⟨x1, x2⟩ := x
      simp only at d1 d2
      have HST := Lib.hid hst
      obtain ⟨M, hM⟩ : ∃ M, M = ofP (l.take k) := ⟨_, rfl⟩
      rw [← hM] at HO hlen HST
      clear hst hM
      go_wp2_with fail
      refine (dwith_any _ M _ (HO.out.alloc _).seg hlen x1 x2).mono ?_
      rintro e w2 ⟨v2, rfl, o2, b2⟩
      have hB2 : Below w.heap.size w w2 := (hB.alloc hB.size _).trans (b2.mono (by have := hB.size; simp; omega))
      have O2 := Lib.hid (o2.mono (B' := w.heap.size) (by have := hB.size; simp; omega))
      clear o2 b2 d1 d2
      go_wp2
      go_roundw
      case rel => exact ⟨k + 1, by omega, by go_num, Lib.hid (by rw [HST.out]; exact O2.out), hB2⟩
      case measure => simp [intOf]; omega
    · have hO := HO.out
      rw [List.take_of_length_le (by have := HN.out; omega)] at hO
      have HO := Lib.hid hO
      clear hO
      go_wp2
      go_ret
      exact ⟨_, rfl, HO.out, hB⟩

set_option maxRecDepth 100000 in
set_option maxHeartbeats 2000000 in
theorem dunion_any (va : Value) (a : List Pr) (v : Value) (l : List Pr) (w : World) (hsa : SegP w va a) (hla : a.length ≤ 1000) (hs : SegP w v l) (hl : l.length ≤ 1000) :
    Calls Try.prog 59 #[va, v] w fun e w' => ∃ v', e = .returned v' ∧ OwnP 36 w.heap.size w' v' (ofP (a ++ l)) ∧ Below w.heap.size w w' := by
  have hl62 := hs.1
  obtain ⟨o, c, rfl, _, _, _⟩ := hs.shape
  obtain ⟨n, hn⟩ : ∃ n, n = l.length := ⟨_, rfl⟩
  rw [← hn] at hl62 hl hs ⊢
  have HN := Lib.hid hn
  have HS := Lib.hid hs
  clear hn hs
  obtain ⟨oa, ca, rfl, _, _, _⟩ := hsa.shape
  have HSA := Lib.hid hsa
  clear hsa
  go_enter Try.func59, Try.ntmps59
  go_wp2_with fail
  refine (dof_any _ a _ HSA.out hla).mono ?_
  rintro e w1 ⟨va, rfl, oA, bA⟩
  have OA := Lib.hid oA
  clear oA
  go_wp2
  go_loopw [5, 12] (fun s i wr => ∃ k : Nat, k ≤ n ∧ i = .int .i64 (k : Int) ∧ Hid (OwnP 36 w.heap.size wr s (ofP (a ++ l.take k))) ∧ Below w.heap.size w wr) (fun _ i _ => n - (intOf i).toNat)
  case atStart => exact ⟨0, by omega, rfl, Lib.hid (by simpa using OA.out), bA⟩
  case round =>
    obtain ⟨k, hk, rfl, HO, hB⟩ := hrel
    by_cases hlt : k < n
    · have hkl : k < l.length := by have := HN.out; omega
      obtain ⟨b, f, rfl, hb, hcells⟩ := (HS.out.later hB).has hkl
      obtain ⟨d1, d2⟩ := hcells k hkl
      have hst := ofP_take2 (a := a) hkl
      have hlen : (ofP (a ++ l.take k)).length ≤ 1000000 := by have h1 := ofP_len (a ++ l.take k); rw [List.length_append, List.length_take] at h1; omega
      obtain ⟨x, hx⟩ : ∃ x, x = l[k] := ⟨_, rfl⟩
      rw [← hx] at d1 d2 hst
      clear hx hcells
      obtain ⟨x1, x2⟩ := x
      simp only at d1 d2
      have HST := Lib.hid hst
      obtain ⟨M, hM⟩ : ∃ M, M = ofP (a ++ l.take k) := ⟨_, rfl⟩
      rw [← hM] at HO hlen HST
      clear hst hM
      go_wp2_with fail
      refine (dwith_any _ M _ (HO.out.alloc _).seg hlen x1 x2).mono ?_
      rintro e w2 ⟨v2, rfl, o2, b2⟩
      have hB2 : Below w.heap.size w w2 := (hB.alloc hB.size _).trans (b2.mono (by have := hB.size; simp; omega))
      have O2 := Lib.hid (o2.mono (B' := w.heap.size) (by have := hB.size; simp; omega))
      clear o2 b2 d1 d2
      go_wp2
      go_roundw
      case rel => exact ⟨k + 1, by omega, by go_num, Lib.hid (by rw [HST.out]; exact O2.out), hB2⟩
      case measure => simp [intOf]; omega
    · have hO := HO.out
      rw [List.take_of_length_le (by have := HN.out; omega)] at hO
      have HO := Lib.hid hO
      clear hO
      go_wp2
      go_ret
      exact ⟨_, rfl, HO.out, hB⟩

end Go.Proofs.Ytcapmhmlipmciaa

