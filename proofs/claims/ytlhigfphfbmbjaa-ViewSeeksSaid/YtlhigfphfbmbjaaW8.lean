/- tiers.fromNewest: tiers told from the newest one on. -/
import Derived.Test.YtlhigfphfbmbjaaW7
namespace Go.Proofs.Kit
open Go.RowKit
/-- What a tier is told as. -/
abbrev encT (x : Ti × Tr) : Array Value := #[.agg #[.slice x.1.ao x.1.an x.1.ac, .slice x.1.bo x.1.bn x.1.bc]]
/-- What the iterator reads. -/
def KT (t : TypeId) (bx : Nat) (v : Value) (l : List Ti) (X : World) : Prop := Blk X bx #[v] t ∧ SegE tiE X v l
theorem KT.later {t : TypeId} {bx : Nat} {v : Value} {l : List Ti} {X X' : World} (h : KT t bx v l X) (hb : Below X.heap.size X X') : KT t bx v l X' := ⟨h.1.later hb, h.2.later hb⟩
def GT (l : List Ti) (L : List Tr) (x : Ti × Tr) : Prop := ∃ (i : Nat) (h : i < l.length) (h' : i < L.length), x = (l[i], L[i])
def told (l : List Ti) (L : List Tr) : List (Ti × Tr) := (l.zip L).reverse
theorem told_len {l : List Ti} {L : List Tr} {n : Nat} (h1 : l.length = n) (h2 : L.length = n) : (told l L).length = n := by
  simp [told, h1, h2]
theorem told_next {l : List Ti} {L : List Tr} {n i : Nat} (h1 : l.length = n) (h2 : L.length = n) (hi : i < n) : (told l L).take (i + 1) = (told l L).take i ++ [(l[n - 1 - i]'(by omega), L[n - 1 - i]'(by omega))] := by
  have h : i < (told l L).length := by rw [told_len h1 h2]; exact hi
  rw [List.take_succ_eq_append_getElem h]
  congr 2
  simp [told, h1, h2]
theorem told_snd {l : List Ti} {L : List Tr} (h : l.length = L.length) : (told l L).map (·.2) = L.reverse := by
  unfold told
  rw [List.map_reverse]
  congr 1
  apply List.ext_getElem
  · simp [h]
  · intro i a b
    simp
end Go.Proofs.Kit
namespace Go.Proofs.Ytlhigfphfbmbjaa
open Go.RowKit Go.Proofs.Kit Go.Shelf
attribute [local go_sem] Oper.semAt_some
set_option maxRecDepth 100000 in
set_option maxHeartbeats 4000000 in
theorem newest1_in (m : Nat) (hm : 1 ≤ m) (bx : Nat) (o : Option Addr) (n c : Nat) (l : List Ti) (L : List Tr) (hl : l.length = n) (hL : L.length = n) (hn62 : n ≤ 1000000) :
    SeqG Fence.wide m Try.prog 114 #[.pointer (some ⟨bx, 0, none⟩)] encT (fun xs => xs = told l L) (fun pre => ∃ r, told l L = pre ++ r) n (KT 45 bx (.slice o n c) l) (GT l L) := by
  intro lp J Jx W hJK hJB hY h0
  have hK0 := hJK _ _ h0
  have c0 := hK0.1.cell 0
  have lb0 := hK0.1.lt
  simp only [List.getElem?_toArray, List.getElem?_cons_zero] at c0
  have HJK := Lib.hid hJK
  have HJB := Lib.hid hJB
  have HY := Lib.hid hY
  have HL := Lib.hid hl
  have HLL := Lib.hid hL
  clear hJK hJB hY hK0 hl hL
  refine callsIn_wide.2 ?_
  go_enter Try.func114, Try.ntmps114
  go_wp2
  clear c0 lb0
  go_loopg [6] n (fun kx x wr => ∃ (i : Nat), x = .int .i64 (i : Int) ∧ i ≤ n ∧ n - i ≤ kx ∧ Hid (J ((told l L).take i) wr))
  case atStart => exact ⟨0, rfl, Nat.zero_le _, Nat.le_refl _, Lib.hid h0⟩
  case round =>
    obtain ⟨i, rfl, hi, hkx, HJ⟩ := hrel
    by_cases hlt : i < n
    · have hKr := HJK.out _ _ HJ.out
      have c0 := hKr.1.cell 0
      have lb0 := hKr.1.lt
      simp only [List.getElem?_toArray, List.getElem?_cons_zero] at c0
      obtain ⟨q, hq⟩ : ∃ q, q = n - 1 - i := ⟨_, rfl⟩
      have hql : q < l.length := by have := HL.out; omega
      have hqL : q < L.length := by have := HLL.out; omega
      obtain ⟨b, f, rfl, _, _, hcm, hbl, hcells⟩ := hKr.2.has hql
      have d0 : wr.cell? ⟨b, f + q * 2, none⟩ = some (.slice l[q].ao l[q].an l[q].ac) := hcells q hql 0 _ rfl
      have d1 : wr.cell? ⟨b, f + q * 2 + 1, none⟩ = some (.slice l[q].bo l[q].bn l[q].bc) := hcells q hql 1 _ rfl
      have HN := Lib.hid (told_next HL.out HLL.out hlt)
      simp only [← hq] at HN
      obtain ⟨x, hx⟩ : ∃ x, x = l[q] := ⟨_, rfl⟩
      obtain ⟨t, ht⟩ : ∃ t, t = L[q] := ⟨_, rfl⟩
      have hG : GT l L (x, t) := ⟨q, hql, hqL, by rw [hx, ht]⟩
      rw [← hx] at d0 d1
      rw [← hx, ← ht] at HN
      have HG := Lib.hid hG
      have q1 : ((n : Int) - 1 - (i : Int)) = (q : Int) := by omega
      have q2 : IntKind.i64.wrap ((n : Int) - 1) = ((n : Int) - 1) := by rw [IntKind.wrap_i64]; omega
      have q3 : (0 : Int) ≤ (n : Int) - 1 - (i : Int) := by omega
      have q4 : (q : Int) < (n : Int) := by omega
      obtain ⟨ao, an, ac, bo, bn, bc⟩ := x
      simp only at d0 d1
      have hlen : ((told l L).take i).length < n := by rw [List.length_take, told_len HL.out HLL.out]; omega
      have HLEN := Lib.hid hlen
      clear hKr hcells hx ht hG hlen hql hqL hq
      go_upto_region 3 with (fail)
      refine (wpIn_wide (n := m)).1 ?_
      obtain ⟨fn, tmps, assign, body, hy, hRd⟩ := HY.out _ _ _ HJ.out HLEN.out HG.out
      dsimp only [encT] at hy
      gi_wp2_with fail
      refine hRd.mono ?_
      rintro e W3 (⟨rfl, hJ3⟩ | ⟨rfl, hJ3⟩)
      · gi_wp2_with fail
        go_wp2
        go_roundg (n - (i + 1))
        case measure => omega
        case rel => exact ⟨i + 1, by go_num, by omega, Nat.le_refl _, Lib.hid (by rw [HN.out]; exact hJ3)⟩
      · gi_wp2_with fail
        go_wp2
        refine bodyPost_ret (v := .tuple #[]) (by simp [results, Try.results114]) rfl ?_
        refine ⟨⟨_, rfl⟩, .inr ⟨_, ⟨(told l L).drop (i + 1), ?_⟩, hJ3⟩⟩
        rw [← HN.out, List.take_append_drop]
    · obtain rfl : i = n := by omega
      have HT := Lib.hid (show (told l L).take i = told l L from List.take_of_length_le (by rw [told_len HL.out HLL.out]; exact Nat.le_refl _))
      rw [HT.out] at HJ
      go_wp2
      go_end0
      exact ⟨⟨_, rfl⟩, .inl ⟨_, rfl, HJ.out⟩⟩
set_option maxRecDepth 100000 in
set_option maxHeartbeats 1000000 in
theorem newest_any (o : Option Addr) (n c : Nat) (w : World) : Calls Try.prog 105 #[.slice o n c] w fun e w' => e = .returned (.func (.func 114) #[] #[.pointer (some ⟨w.heap.size, 0, none⟩)]) ∧ w' = w.alloc (.cells #[.slice o n c] 45) := by
  have hmf : ∀ (fn : Fn) (first cap : Array Value) (w : World), (Instr.makeFunc fn first cap).run Try.prog w = .ok (.func fn first cap) w := fun _ _ _ _ => rfl
  go_enter Try.func105, Try.ntmps105
  go_wp2
  go_ret
  exact ⟨rfl, rfl⟩
end Go.Proofs.Ytlhigfphfbmbjaa

