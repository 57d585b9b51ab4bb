/- trie's looks: halved, place. -/
import Derived.Test.YtjfnhjmdgfkgnaaU7
import Derived.WalkMore
namespace Go.Proofs.Kit
open Go.RowKit
/-- Where a key stands, or would. -/
def plcU (l : List Int) (k : Int) : Nat := l.countP fun x => decide (x < k)
theorem plcU_le (l : List Int) (k : Int) : plcU l k ≤ l.length := List.countP_le_length
theorem plcU_of {l : List Int} {k : Int} {i : Nat} (hi : i ≤ l.length) (h1 : ∀ j (h : j < l.length), j < i → l[j] < k) (h2 : ∀ j (h : j < l.length), i ≤ j → k ≤ l[j]) : plcU l k = i := by
  unfold plcU
  have e : l = l.take i ++ l.drop i := (List.take_append_drop i l).symm
  rw [e, List.countP_append]
  have e1 : (l.take i).countP (fun x => decide (x < k)) = i := by
    have : (l.take i).countP (fun x => decide (x < k)) = (l.take i).length := by
      rw [List.countP_eq_length]
      intro x hx
      obtain ⟨j, hj, rfl⟩ := List.getElem_of_mem hx
      rw [List.length_take] at hj
      rw [List.getElem_take]
      simpa using h1 j (by omega) (by omega)
    rw [this, List.length_take]
    omega
  have e2 : (l.drop i).countP (fun x => decide (x < k)) = 0 := by
    rw [List.countP_eq_zero]
    intro x hx
    obtain ⟨j, hj, rfl⟩ := List.getElem_of_mem hx
    rw [List.length_drop] at hj
    rw [List.getElem_drop]
    have := h2 (i + j) (by omega) (by omega)
    simp
    omega
  omega
theorem plcU_lt {l : List Int} (hr : Rises l) {k : Int} {j : Nat} (hj : j < l.length) (h : j < plcU l k) : l[j] < k := by
  by_cases c : l[j] < k
  · exact c
  · exfalso
    have : plcU l k ≤ j := by
      unfold plcU
      have e : l = l.take j ++ l.drop j := (List.take_append_drop j l).symm
      rw [e, List.countP_append]
      have e2 : (l.drop j).countP (fun x => decide (x < k)) = 0 := by
        rw [List.countP_eq_zero]
        intro x hx
        obtain ⟨i, hi, rfl⟩ := List.getElem_of_mem hx
        rw [List.length_drop] at hi
        rw [List.getElem_drop]
        by_cases e0 : i = 0
        · subst e0; simpa using c
        · have := hr.at (i := j) (j := j + i) hj (by omega) (by omega)
          simp
          omega
      have e1 : (l.take j).countP (fun x => decide (x < k)) ≤ (l.take j).length := List.countP_le_length
      rw [List.length_take] at e1
      omega
    omega
theorem plcU_ge {l : List Int} (hr : Rises l) {k : Int} {j : Nat} (hj : j < l.length) (h : plcU l k ≤ j) : k ≤ l[j] := by
  by_cases c : l[j] < k
  · exfalso
    have : j + 1 ≤ plcU l k := by
      unfold plcU
      have e : l = l.take (j + 1) ++ l.drop (j + 1) := (List.take_append_drop (j + 1) l).symm
      rw [e, List.countP_append]
      have e1 : (l.take (j + 1)).countP (fun x => decide (x < k)) = (l.take (j + 1)).length := by
        rw [List.countP_eq_length]
        intro x hx
        obtain ⟨i, hi, rfl⟩ := List.getElem_of_mem hx
        rw [List.length_take] at hi
        rw [List.getElem_take]
        by_cases e0 : i = j
        · subst e0; simpa using c
        · have := hr.at (i := i) (j := j) (by omega) hj (by omega)
          simp
          omega
      rw [List.length_take] at e1
      omega
    omega
  · omega
theorem plcU_at {l : List Int} (hr : Rises l) {j : Nat} (hj : j < l.length) : plcU l l[j] = j := plcU_of (by omega) (fun i hi h => hr.at hi hj h) (fun i hi h => by
  by_cases e : i = j
  · subst e; exact Int.le_refl _
  · have := hr.at hj hi (by omega); omega)
theorem plcU_mem {l : List Int} (hr : Rises l) {k : Int} (h : k ∈ l) : ∃ hi : plcU l k < l.length, l[plcU l k] = k := by
  obtain ⟨j, hj, rfl⟩ := List.getElem_of_mem h
  have e := plcU_at hr hj
  exact ⟨by omega, by simp only [e]⟩
/-- What a look at a place says. -/
structure LK (tl tk : TypeId) (b2 b3 : Nat) (vb vl vr : Value) (row : List Int) (key : Int) (W : World) : Prop where
  l : Blk W b2 #[vb, vl, vr] tl
  k : Blk W b3 #[.int .u64 key] tk
  r : Seg .u64 W vr row
theorem LK.later {tl tk : TypeId} {b2 b3 : Nat} {vb vl vr : Value} {row : List Int} {key : Int} {W W' : World} (h : LK tl tk b2 b3 vb vl vr row key W) (hb : Below W.heap.size W W') : LK tl tk b2 b3 vb vl vr row key W' := ⟨h.l.later hb, h.k.later hb, h.r.later hb⟩
end Go.Proofs.Kit
namespace Go.Proofs.Ytjfnhjmdgfkgnaa
open Go.RowKit Go.Proofs.Kit
theorem cmpu_same (x y : Int) (w : World) : Calls Try.prog 96 #[.int .u64 x, .int .u64 y] w fun e w' => e = .returned (.int .i64 (cmp1 x y)) ∧ w' = w := (cmpu_any x y w).mono fun _ _ ⟨h, h'⟩ => ⟨h, h'.symm⟩
set_option maxRecDepth 100000 in
set_option maxHeartbeats 1000000 in
theorem place1_any (b2 b3 : Nat) (vb vl vr : Value) (row : List Int) (key : Int) (i : Nat) (hi : i < row.length) (W : World) (h : LK 92 32 b2 b3 vb vl vr row key W) :
    Calls Try.prog 95 #[.int .i64 (i : Int), .pointer (some ⟨b2, 0, none⟩), .pointer (some ⟨b3, 0, none⟩)] W fun e w' => e = .returned (.int .i64 (cmp1 row[i] key)) ∧ Gr W w' := by
  rcases h.r.2 with ⟨rfl, rfl⟩ | ⟨b, off, cap, rfl, h2, h3, h4, h5⟩
  · simp at hi
  · have d1 := h5 i hi
    obtain ⟨_, _, c3, l2⟩ := h.l.c3
    have c4 := h.k.cell 0
    have l3 := h.k.lt
    simp only [List.getElem?_toArray, List.getElem?_cons_zero] at c4
    obtain ⟨x, hx⟩ : ∃ x, x = row[i] := ⟨_, rfl⟩
    obtain ⟨n, hn⟩ : ∃ n, n = row.length := ⟨_, rfl⟩
    rw [← hx] at d1 ⊢
    rw [← hn] at hi h2 c3
    have g1 : (i : Int) < (n : Int) := by omega
    clear hx hn h h5
    go_enter Try.func95, Try.ntmps95
    go_wp2
    go_quiet ((go_at_call 96; refine Calls.quiet_of_same (cmpu_same _ _ _)))
    go_wp2
    go_ret
    exact ⟨rfl, Gr.drewN _ _⟩
set_option maxRecDepth 100000 in
set_option maxHeartbeats 4000000 in
theorem halved_any (b2 b3 : Nat) (vb vl vr : Value) (row : List Int) (key : Int) (n : Nat) (w : World) (hn : row.length = n) (hl : n ≤ 1000000) (hr : Rises row) (h : LK 92 32 b2 b3 vb vl vr row key w) :
    Calls Try.prog 94 #[.int .i64 (n : Int), .func (.func 95) #[] #[.pointer (some ⟨b2, 0, none⟩), .pointer (some ⟨b3, 0, none⟩)]] w fun e w' => e = .returned (.tuple #[.int .i64 (plcU row key : Nat), .bool (decide (key ∈ row))]) ∧ Gr w w' := by
  have HN := Lib.hid hn
  have HR := Lib.hid hr
  have H := Lib.hid h
  clear hn hr h
  obtain ⟨P, hP⟩ : ∃ P, P = plcU row key := ⟨_, rfl⟩
  obtain ⟨M, hM⟩ : ∃ M, M = decide (key ∈ row) := ⟨_, rfl⟩
  rw [← hP, ← hM]
  have HP := Lib.hid hP
  have HM := Lib.hid hM
  clear hP hM
  go_enter Try.func94, Try.ntmps94
  go_wp2
  go_step3
  go_wp2
  go_step3
  go_wp2
  go_loopg [6, 7, 8] n (fun kx a c f wr => ∃ i j : Nat, a = .int .i64 (i : Int) ∧ c = .int .i64 (j : Int) ∧ f = .bool false ∧ i ≤ j ∧ j ≤ n ∧ j - i ≤ kx ∧ Hid ((∀ k (h : k < row.length), k < i → row[k] < key) ∧ (∀ k (h : k < row.length), j ≤ k → key < row[k])) ∧ Gr w wr)
  case atStart => exact ⟨0, n, rfl, rfl, rfl, by omega, by omega, by omega, Lib.hid ⟨fun k _ hk => by omega, fun k h1 h2 => by have := HN.out; omega⟩, Gr.refl _⟩
  case round =>
    obtain ⟨i, j, rfl, rfl, rfl, hij, hjn, hkx, HI, hG⟩ := hrel
    by_cases hlt : i < j
    · obtain ⟨h, hh⟩ : ∃ h, h = i + (j - i) / 2 := ⟨_, rfl⟩
      have hm : h < row.length := by have := HN.out; omega
      have hih : i ≤ h := by omega
      have hhj : h < j := by omega
      have HC := Lib.hid (place1_any b2 b3 vb vl vr row key h hm wr (H.out.later hG.below))
      obtain ⟨x, hx⟩ : ∃ x, x = row[h] := ⟨_, rfl⟩
      rw [← hx] at HC
      have HX := Lib.hid hx
      have q0 : ((j : Int) - (i : Int)) / 2 = ((h - i : Nat) : Int) := by omega
      have q1 : (i : Int) + ((h - i : Nat) : Int) = (h : Int) := by omega
      obtain ⟨d, hd⟩ : ∃ d, d = h - i := ⟨_, rfl⟩
      rw [← hd] at q0 q1
      have q2 : (h : Int) < (j : Int) := by omega
      have q3 : (i : Int) ≤ (h : Int) := by omega
      clear hh hx hd
      rcases Int.lt_trichotomy x key with h0 | h0 | h0
      · have ht : cmp1 x key = -1 := by unfold cmp1; rw [if_pos h0]
        rw [ht] at HC
        have H0 := Lib.hid h0
        clear h0 ht
        go_wp2_with fail
        refine HC.out.mono ?_
        rintro e w2 ⟨rfl, g2⟩
        go_wp2
        go_roundg (j - (h + 1))
        case measure => omega
        case rel =>
          refine ⟨h + 1, j, by go_num, rfl, rfl, by omega, by omega, by omega, Lib.hid ⟨fun k hk hkh => ?_, HI.out.2⟩, hG.trans g2⟩
          by_cases e : k = h
          · subst e; rw [← HX.out]; exact H0.out
          · have := HR.out.at (i := k) (j := h) hk hm (by omega)
            have := HX.out
            have := H0.out
            omega
      · have ht : cmp1 x key = 0 := by subst h0; unfold cmp1; rw [if_neg (by omega), if_neg (by omega)]
        have hp : P = h := by
          have e := plcU_at HR.out hm
          rw [← HX.out, h0] at e
          rw [HP.out, e]
        have hmm : M = true := by
          rw [HM.out, decide_eq_true_iff, ← h0, HX.out]
          exact List.getElem_mem hm
        rw [ht] at HC
        have HP2 := Lib.hid hp
        have HM2 := Lib.hid hmm
        clear h0 ht hp hmm
        go_wp2_with fail
        refine HC.out.mono ?_
        rintro e w2 ⟨rfl, g2⟩
        go_wp2
        rw [Exit.noGoto_ret]
        go_ret2
        refine ⟨?_, hG.trans g2⟩
        rw [HP2.out, HM2.out]
        rfl
      · have ht : cmp1 x key = 1 := by unfold cmp1; rw [if_neg (by omega), if_pos h0]
        rw [ht] at HC
        have H0 := Lib.hid h0
        clear h0 ht
        go_wp2_with fail
        refine HC.out.mono ?_
        rintro e w2 ⟨rfl, g2⟩
        go_wp2
        go_roundg (h - i)
        case measure => omega
        case rel =>
          refine ⟨i, h, rfl, rfl, rfl, by omega, by omega, by omega, Lib.hid ⟨HI.out.1, fun k hk hkh => ?_⟩, hG.trans g2⟩
          by_cases e : k = h
          · subst e; rw [← HX.out]; exact H0.out
          · have := HR.out.at (i := h) (j := k) hm hk (by omega)
            have := HX.out
            have := H0.out
            omega
    · obtain rfl : i = j := by omega
      have hp : P = i := by
        rw [HP.out]
        exact plcU_of (by have := HN.out; omega) HI.out.1 (fun k hk h => by have := HI.out.2 k hk h; omega)
      have hmm : M = false := by
        rw [HM.out, decide_eq_false_iff_not]
        intro hk
        obtain ⟨hi, e⟩ := plcU_mem HR.out hk
        have hp' := hp
        rw [HP.out] at hp'
        have := HI.out.2 (plcU row key) hi (by omega)
        omega
      have HP2 := Lib.hid hp
      have HM2 := Lib.hid hmm
      clear hp hmm
      go_wp2
      rw [Exit.noGoto_ret]
      go_ret2
      refine ⟨?_, hG⟩
      rw [HP2.out, HM2.out]
      rfl
end Go.Proofs.Ytjfnhjmdgfkgnaa

