/- slices.Compact of pairs, and of numbers. -/
import Derived.Test.YteipihoebnmagaaN4
namespace Go.Proofs.Kit
open Go.RowKit
section
variable {α : Type} [DecidableEq α]
/-- Of equal neighbours the first one alone. -/
def dd : List α → List α
  | [] => []
  | [x] => [x]
  | x :: y :: t => if x = y then dd (y :: t) else x :: dd (y :: t)
theorem dd_snoc : ∀ (l : List α) (x y : α), dd (l ++ [x] ++ [y]) = if x = y then dd (l ++ [x]) else dd (l ++ [x]) ++ [y]
  | [], x, y => by by_cases h : x = y <;> simp [dd, h]
  | [a], x, y => by
    have := dd_snoc [] x y
    simp only [List.nil_append, List.cons_append] at this ⊢
    by_cases h : a = x
    · simp only [dd, h, if_true] at this ⊢; exact this
    · simp only [dd, h, if_false]
      simp only [dd] at this
      rw [this]
      split <;> simp
  | a :: b :: t, x, y => by
    have := dd_snoc (b :: t) x y
    simp only [List.cons_append] at this ⊢
    rw [dd, dd, this]
    by_cases h : a = b <;> by_cases k : x = y <;> simp [h, k]
theorem dd_take_succ {l : List α} {k : Nat} (h1 : 1 ≤ k) (hk : k < l.length) : dd (l.take (k + 1)) = if l[k - 1]'(by omega) = l[k] then dd (l.take k) else dd (l.take k) ++ [l[k]] := by
  obtain ⟨j, rfl⟩ : ∃ j, k = j + 1 := ⟨k - 1, by omega⟩
  rw [List.take_succ_eq_append_getElem hk, List.take_succ_eq_append_getElem (show j < l.length by omega), dd_snoc]
  simp
theorem dd_len : ∀ l : List α, (dd l).length ≤ l.length
  | [] => by simp [dd]
  | [x] => by simp [dd]
  | x :: y :: t => by
    have := dd_len (y :: t)
    rw [dd]
    split <;> simp at this ⊢ <;> omega
theorem dd_mem : ∀ (l : List α) (x : α), x ∈ dd l ↔ x ∈ l
  | [], x => by simp [dd]
  | [y], x => by simp [dd]
  | y :: z :: t, x => by
    have := dd_mem (z :: t) x
    rw [dd]
    by_cases h : y = z
    · rw [if_pos h, this, h]; simp
    · rw [if_neg h, List.mem_cons, this]; simp
theorem dd_small {l : List α} (h : l.length < 2) : dd l = l := by
  match l, h with
  | [], _ => rfl
  | [x], _ => rfl
omit [DecidableEq α] in
theorem take_set_succ {l : List α} {k : Nat} (hk : k < l.length) (x : α) : (l.set k x).take (k + 1) = l.take k ++ [x] := by
  rw [List.take_succ_eq_append_getElem (by simpa using hk), List.take_set, List.set_eq_of_length_le (by simp; omega)]
  simp
omit [DecidableEq α] in
theorem drop_set_lt {l : List α} {k j : Nat} (h : k < j) (x : α) : (l.set k x).drop j = l.drop j := by
  rw [List.drop_set, if_pos h]
omit [DecidableEq α] in
theorem getElem_of_drop {l m : List α} {j i : Nat} (h : l.drop j = m.drop j) (hi : j ≤ i) (h1 : i < l.length) (h2 : i < m.length) : l[i] = m[i] := by
  have e : (l.drop j)[i - j]? = (m.drop j)[i - j]? := by rw [h]
  simp only [List.getElem?_drop, show j + (i - j) = i by omega, List.getElem?_eq_getElem h1, List.getElem?_eq_getElem h2] at e
  exact Option.some.inj e
end
theorem OwnP.facts {t : TypeId} {B : Nat} {w : World} {l : List Pr} {g n cap : Nat} (h : OwnP t B w (.slice (some ⟨g, 0, none⟩) n cap) l) : PCells w g 0 l ∧ (∀ j, w.frozen? ⟨g, j, none⟩ = false) ∧ g < w.heap.size ∧ B ≤ g ∧ l.length = n := by
  rcases h.2.2 with ⟨h1, _⟩ | ⟨g', cap', cur, h1, hg, hb, _, _, _, h4⟩
  · cases h1
  · injection h1 with h1 h2 h3
    injection h1 with h1
    injection h1 with h1 _ _
    subst h1
    have hb' : Blk w g cur t := hb
    refine ⟨fun i hi => ?_, fun j => hb'.frozen j, hb'.lt, hg, h2.symm⟩
    have hf := flat_get l i hi
    rw [← h4] at hf
    rw [List.getElem?_take_of_lt (by omega), List.getElem?_take_of_lt (by omega)] at hf
    rw [hb'.cell, hb'.cell, Nat.zero_add]
    simpa using hf
theorem OwnP.store {t : TypeId} {B : Nat} {w : World} {l : List Pr} {g n cap i : Nat} (h : OwnP t B w (.slice (some ⟨g, 0, none⟩) n cap) l) (hi : i < l.length) (x1 x2 : Int) : OwnP t B ((w.setCell ⟨g, i * 2, none⟩ (.int .u64 x1)).setCell ⟨g, i * 2 + 1, none⟩ (.int .u64 x2)) (.slice (some ⟨g, 0, none⟩) n cap) (l.set i (x1, x2)) := by
  obtain ⟨g', cap', e, _, _, _, _, _, _, h'⟩ := h.set hi (x1, x2)
  injection e with e1 e2 e3
  injection e1 with e1
  injection e1 with e1 _ _
  subst e1
  exact h'
theorem zeroCells_P (n : Nat) : (Builtin.zeroCells #[.int .u64 0, .int .u64 0] n).toList = flat (zeros n) := by
  rw [flat_zeros]
  apply List.ext_getElem
  · simp [Builtin.zeroCells]
  · intro i h1 h2
    simp [Builtin.zeroCells]
    rcases Nat.mod_two_eq_zero_or_one i with e | e <;> simp [e]
theorem zeroCells_I (k : IntKind) (n : Nat) : (Builtin.zeroCells #[.int k 0] n).toList = List.replicate n (.int k 0) := by
  apply List.ext_getElem
  · simp [Builtin.zeroCells]
  · intro i h1 h2
    simp [Builtin.zeroCells, Nat.mod_one]
/-- clear(s[k:]) of a row of the call's own; what is ahead of k is kept. -/
theorem wpList_clear_tailP {P : Program} {w : World} {ops : Array Oper} {rest : List Oper} {o : Oper} {a : Act} {Q : Exit → Act → World → Prop} (hgd : o.guard = none) (s : Operand) (t : TypeId)
    (ho : o.op = .call { callee := .builtin .clear, args := #[s], argTypes := #[t] }) (e : TypeId) (hu : P.underlying t = some (.slice e)) (hz : ∀ w, (zeroValue e).run P w = .ok (.agg #[.int .u64 0, .int .u64 0]) w)
    (B g cap : Nat) (l : List Pr) (k : Nat) (hk : k < l.length) (hown : OwnP e B w (.slice (some ⟨g, 0, none⟩) l.length cap) l) (len' c' : Nat) (hs : a.eval s = .slice (some ⟨g, k * 2, none⟩) len' c') (hlen' : len' = l.length - k)
    (h : ∀ w', OwnP e B w' (.slice (some ⟨g, 0, none⟩) k cap) (l.take k) → Below B w w' → wpList P ops Q rest (a.put o.dst (.tuple #[])) w') : wpList P ops Q (o :: rest) a w := by
  refine wpList_plain hgd fun K hK => ?_
  subst hlen'
  have hl48 := hown.1
  obtain ⟨g', cap', cur, hv, h1, h2, h3, hg, hb, h4⟩ := hown.blk (by omega)
  injection hv with hv _ hc
  injection hv with hv
  injection hv with hv _ _
  subst hv hc
  have hst := run_storeCells_at P g (k * 2) e (flat (zeros (l.length - k))) 0 cur w hb (by rw [flat_length]; simp [zeros]; omega) (flat_one _)
  simp only [Nat.add_zero] at hst
  have hne : l.length - k ≠ 0 := by omega
  obtain ⟨m, hm⟩ : ∃ m, l.length - k = m + 1 := ⟨l.length - k - 1, by omega⟩
  have hrun : (Builtin.clear_ #[t] o.type #[.slice (some ⟨g, k * 2, none⟩) (l.length - k) c']).run P w = .ok (.tuple #[]) (w.setRow g (cur.toList.take (k * 2) ++ flat (zeros (l.length - k)) ++ cur.toList.drop (k * 2 + (flat (zeros (l.length - k))).length)).toArray) := by
    rw [hm] at hst ⊢
    have hzc := zeroCells_P (m + 1)
    simp [Builtin.clear_, run_underlying hu, hz, Value.cells, hzc, hst]
  unfold Oper.wp
  simp [execOp, ho, resolve, invoke, builtin, hs, hrun, Result.andThen]
  refine hK _ _ (h _ ?_ (below_setRow (Below.refl _ _) hg _))
  have e1 : (l.take k).length = k := by simp; omega
  have hcl : cur.toList.length = cap * 2 := by simpa using h3
  have := OwnP.of_blk (t := e) (l := l.take k) (cap := cap) hg (blk_setRow hb (cur.toList.take (k * 2) ++ flat (zeros (l.length - k)) ++ cur.toList.drop (k * 2 + (flat (zeros (l.length - k))).length)).toArray) (by omega) h2 (by omega) (by
    simp [flat_length, zeros]; omega) (by
    rw [e1, flat_take, ← h4, List.take_take]
    simp only [List.append_assoc]
    rw [List.take_append_of_le_length (by simp; omega), List.take_take]
    congr 1
    omega)
  rw [e1] at this
  simpa using this
theorem wpList_clear_tailI {P : Program} {w : World} {ops : Array Oper} {rest : List Oper} {o : Oper} {a : Act} {Q : Exit → Act → World → Prop} (hgd : o.guard = none) (s : Operand) (t : TypeId)
    (ho : o.op = .call { callee := .builtin .clear, args := #[s], argTypes := #[t] }) (e : TypeId) (ik : IntKind) (hu : P.underlying t = some (.slice e)) (hz : ∀ w, (zeroValue e).run P w = .ok (.int ik 0) w)
    (B g cap : Nat) (l : List Int) (k : Nat) (hk : k < l.length) (hown : Owns ik e B w (.slice (some ⟨g, 0, none⟩) l.length cap) l) (len' c' : Nat) (hs : a.eval s = .slice (some ⟨g, k, none⟩) len' c') (hlen' : len' = l.length - k)
    (h : ∀ w', Owns ik e B w' (.slice (some ⟨g, 0, none⟩) k cap) (l.take k) → Below B w w' → wpList P ops Q rest (a.put o.dst (.tuple #[])) w') : wpList P ops Q (o :: rest) a w := by
  refine wpList_plain hgd fun K hK => ?_
  subst hlen'
  have hl63 := hown.len
  rcases hown.2 with ⟨hv, _⟩ | ⟨g', cap', cur, hv, hg, hb, h1, h2, h3, h4⟩
  · cases hv
  injection hv with hv _ hc
  injection hv with hv
  injection hv with hv _ _
  subst hv hc
  have hst := run_storeCells_at P g k e (List.replicate (l.length - k) (Value.int ik 0)) 0 cur w hb (by simp; omega) (by intro v hv; rw [List.eq_of_mem_replicate hv]; rfl)
  simp only [Nat.add_zero] at hst
  obtain ⟨m, hm⟩ : ∃ m, l.length - k = m + 1 := ⟨l.length - k - 1, by omega⟩
  have hrun : (Builtin.clear_ #[t] o.type #[.slice (some ⟨g, k, none⟩) (l.length - k) c']).run P w = .ok (.tuple #[]) (w.setRow g (cur.toList.take k ++ List.replicate (l.length - k) (Value.int ik 0) ++ cur.toList.drop (k + (List.replicate (l.length - k) (Value.int ik 0)).length)).toArray) := by
    rw [hm] at hst ⊢
    have hzc := zeroCells_I ik (m + 1)
    simp only [Builtin.clear_]
    simp [run_underlying hu, hz, Value.cells, hzc, hst]
  unfold Oper.wp
  simp [execOp, ho, resolve, invoke, builtin, hs, hrun, Result.andThen]
  refine hK _ _ (h _ ?_ (below_setRow (Below.refl _ _) hg _))
  have e1 : (l.take k).length = k := by simp; omega
  refine ⟨by simp, .inr ⟨g, cap, _, by rw [e1], hg, blk_setRow (t := e) hb _, by omega, h2, by simp at h3 ⊢; omega, ?_⟩⟩
  rw [Nat.mul_one] at h4 ⊢
  rw [e1, List.map_take, ← h4, List.take_take]
  rw [List.take_append_of_le_length (by simp; omega), List.take_take]
  congr 1
  omega
end Go.Proofs.Kit
namespace Go.Proofs.Yteipihoebnmagaa
open Go.RowKit Go.Proofs.Kit

theorem zeroP (w : World) : (zeroValue 30).run Try.prog w = .ok (.agg #[.int .u64 0, .int .u64 0]) w := by kernel_rfl
set_option maxHeartbeats 4000000 in
theorem compactP_any (B : Nat) (v : Value) (l : List Pr) (w : World) (hown : OwnP 30 B w v l) :
    Calls Try.prog 38 #[v] w fun e w' => ∃ v', e = .returned v' ∧ OwnP 30 B w' v' (dd l) ∧ Below B w w' := by
  by_cases h2 : l.length < 2
  · have e := dd_small h2
    obtain ⟨o, c, rfl⟩ := hown.shape
    have HO := Lib.hid hown
    have HE := Lib.hid e
    clear hown e
    go_enter Try.func38, Try.ntmps38
    go_wp2
    go_ret
    rw [HE.out]
    exact ⟨_, rfl, HO.out, Below.refl _ _⟩
  · obtain ⟨g, cap, cur, rfl, hlc, hcap, hcur, hg, hb, hcl⟩ := hown.blk (by omega)
    have hl62 := hown.1
    obtain ⟨n, hn⟩ : ∃ n, n = l.length := ⟨_, rfl⟩
    rw [← hn] at h2 hlc hown hl62 ⊢
    have HN := Lib.hid hn
    have HO := Lib.hid hown
    clear hn hown hcl hcur hb
    go_enter Try.func38, Try.ntmps38
    go_wp2
    go_loopw [3] (fun i wr => ∃ k : Nat, 1 ≤ k ∧ k ≤ n ∧ i = .int .i64 (k : Int) ∧ Hid (dd (l.take k) = l.take k) ∧ Hid (OwnP 30 B wr (.slice (some ⟨g, 0, none⟩) n cap) l) ∧ Below B w wr) (fun i _ => n - (intOf i).toNat)
    case atStart => exact ⟨1, by omega, by omega, rfl, Lib.hid (dd_small (by simp; omega)), HO, Below.refl _ _⟩
    case round =>
      obtain ⟨k, hk1, hk, rfl, HP, HOR, hB⟩ := hrel
      by_cases hlt : k < n
      · obtain ⟨j, rfl⟩ : ∃ j, k = j + 1 := ⟨k - 1, by omega⟩
        have hjl : j + 1 < l.length := by have := HN.out; omega
        obtain ⟨hcells, _, _, _, _⟩ := HOR.out.facts
        obtain ⟨d1, d2⟩ := hcells (j + 1) hjl
        obtain ⟨d3, d4⟩ := hcells j (by omega)
        have hsn := dd_take_succ (l := l) (k := j + 1) (by omega) hjl
        simp only [Nat.add_sub_cancel] at hsn
        obtain ⟨x, hx⟩ : ∃ x, x = l[j + 1] := ⟨_, rfl⟩
        obtain ⟨y, hy⟩ : ∃ y, y = l[j] := ⟨_, rfl⟩
        rw [← hx] at d1 d2 hsn
        rw [← hy] at d3 d4 hsn
        have HX := Lib.hid hx
        have HSN := Lib.hid hsn
        clear hx hy hsn hcells
        obtain ⟨x1, x2⟩ := x
        obtain ⟨y1, y2⟩ := y
        simp only [Nat.zero_add] at d1 d2 d3 d4
        have q1 : IntKind.i64.wrap (j : Int) = (j : Int) := by rw [IntKind.wrap_i64]; omega
        have q2 : (j : Int) + 1 < (n : Int) := by omega
        have q3 : (j : Int) < (n : Int) := by omega
        have q4 : (0 : Int) ≤ (j : Int) + 1 := by omega
        have q5 : ((j : Int) + 1).toNat = j + 1 := by omega
        by_cases hxy : x1 = y1 ∧ x2 = y2
        · have t1 : (x1 == y1) = true := by simpa using hxy.1
          have t2 : (x2 == y2) = true := by simpa using hxy.2
          have t3 : (x1 != y1) = false := by simpa using hxy.1
          have t4 : (x2 != y2) = false := by simpa using hxy.2
          have HXY := Lib.hid hxy
          clear hxy
          go_wp2
          go_quiet (fail)
          clear d1 d2 d3 d4 t1 t2 t3 t4
          have HBASE : Hid (l.take (j + 1) = dd (l.take (j + 1 + 1))) := Lib.hid (by rw [HSN.out, if_pos (by rw [HXY.out.1, HXY.out.2]), HP.out])
          have HO1 := Lib.hid (HOR.out.drewN nq)
          have hB1 : Below B w (wr.drewN nq) := below_drN hB nq
          obtain ⟨wa, hwa⟩ : ∃ wa, wa = wr.drewN nq := ⟨_, rfl⟩
          rw [← hwa] at HO1 hB1 ⊢
          clear hwa q1 q2 q3 q4 q5
          have q6 : ((j : Int) + 1).toNat = j + 1 := by omega
          have q7 : (0 : Int) ≤ (j : Int) + 1 := by omega
          go_wp2
          clear q6 q7
          obtain ⟨s, hs⟩ : ∃ s, s = n - (j + 1) := ⟨_, rfl⟩
          obtain ⟨c2, hc2⟩ : ∃ c, c = cap - (j + 1) := ⟨_, rfl⟩
          rw [← hs, ← hc2]
          have hsn1 : s + (j + 1) = n := by omega
          have HSJ := Lib.hid hsn1
          have hs62 : s ≤ 4611686018427387903 := by omega
          have hs1 : 1 ≤ s := by omega
          have hsc : s ≤ c2 := by omega
          clear hs hc2 hsn1
          go_loopw [3, 5] (fun a b wr => ∃ (q p : Nat) (m : List Pr), q + 1 ≤ s ∧ b = .int .i64 ((q : Int) + 1) ∧ a = .int .i64 (p : Int) ∧ j + 1 ≤ p ∧ p ≤ j + 1 + q ∧ Hid (m.take p = dd (l.take (j + 1 + (q + 1)))) ∧ Hid (m.drop (j + 1 + q) = l.drop (j + 1 + q)) ∧ Hid (OwnP 30 B wr (.slice (some ⟨g, 0, none⟩) n cap) m) ∧ Below B w wr) (fun _ b _ => s - (intOf b).toNat)
          case atStart => exact ⟨0, j + 1, l, by omega, rfl, by go_num, by omega, by omega, HBASE, Lib.hid rfl, HO1, hB1⟩
          case round =>
            obtain ⟨q, p, m, hq, rfl, rfl, hp1, hp2, HM1, HM2, HOM, hBM⟩ := hrel
            obtain ⟨hcells, hfro, hgs, _, hmn⟩ := HOM.out.facts
            have HMN := Lib.hid hmn
            clear hmn
            by_cases hqs : q + 1 < s
            · have hi1 : j + 1 + (q + 1) < l.length := by have := HN.out; have := HSJ.out; omega
              have hi1m : j + 1 + (q + 1) < m.length := by have := HMN.out; have := HN.out; omega
              have hpm : p < m.length := by omega
              have ee1 : m[j + 1 + (q + 1)] = l[j + 1 + (q + 1)] := getElem_of_drop HM2.out (by omega) hi1m hi1
              have ee0 : m[j + 1 + q]'(by omega) = l[j + 1 + q]'(by omega) := getElem_of_drop HM2.out (by omega) (by omega) (by omega)
              obtain ⟨d1, d2⟩ := hcells (j + 1 + (q + 1)) hi1m
              obtain ⟨d3, d4⟩ := hcells (j + 1 + q) (by omega)
              obtain ⟨d5, d6⟩ := hcells p hpm
              rw [ee1] at d1 d2
              rw [ee0] at d3 d4
              rw [show 0 + (j + 1 + (q + 1)) * 2 = (j + 1) * 2 + (q + 1) * 2 by omega] at d1 d2
              rw [show 0 + (j + 1 + q) * 2 = (j + 1) * 2 + q * 2 by omega] at d3 d4
              rw [Nat.zero_add] at d5 d6
              have f1 := hfro (p * 2)
              have f2 := hfro (p * 2 + 1)
              have hsn := dd_take_succ (l := l) (k := j + 1 + (q + 1)) (by omega) hi1
              simp only [show j + 1 + (q + 1) - 1 = j + 1 + q by omega] at hsn
              obtain ⟨x, hx⟩ : ∃ x, x = l[j + 1 + (q + 1)] := ⟨_, rfl⟩
              obtain ⟨y, hy⟩ : ∃ y, y = l[j + 1 + q]'(by omega) := ⟨_, rfl⟩
              obtain ⟨z, hz⟩ : ∃ z, z = m[p] := ⟨_, rfl⟩
              rw [← hx] at d1 d2 hsn
              rw [← hy] at d3 d4 hsn
              rw [← hz] at d5 d6
              have HSN2 := Lib.hid hsn
              clear hx hy hz hsn hcells hfro ee1 ee0
              obtain ⟨x1, x2⟩ := x
              obtain ⟨y1, y2⟩ := y
              obtain ⟨z1, z2⟩ := z
              simp only at d1 d2 d3 d4 d5 d6
              have q1 : IntKind.i64.wrap (q : Int) = (q : Int) := by rw [IntKind.wrap_i64]; omega
              have q2 : (q : Int) + 1 < (s : Int) := by omega
              have q3 : (q : Int) < (s : Int) := by omega
              have q4 : (0 : Int) ≤ (q : Int) + 1 := by omega
              have q5 : ((q : Int) + 1).toNat = q + 1 := by omega
              have q6 : p < n := by have := HMN.out; omega
              by_cases hxy : x1 = y1 ∧ x2 = y2
              · have t1 : (x1 == y1) = true := by simpa using hxy.1
                have t2 : (x2 == y2) = true := by simpa using hxy.2
                have t3 : (x1 != y1) = false := by simpa using hxy.1
                have t4 : (x2 != y2) = false := by simpa using hxy.2
                have HXY := Lib.hid hxy
                clear hxy
                go_wp2
                go_quiet (fail)
                go_wp2
                go_roundw
                case rel =>
                  refine ⟨q + 1, p, m, by omega, by go_num, rfl, hp1, by omega, Lib.hid ?_, Lib.hid ?_, Lib.hid (HOM.out.drewN nq), below_drN hBM nq⟩
                  · rw [show j + 1 + (q + 1 + 1) = j + 1 + (q + 1) + 1 by omega, HSN2.out, if_pos (by rw [HXY.out.1, HXY.out.2])]
                    exact HM1.out
                  · have := congrArg (List.drop 1) HM2.out
                    simpa [List.drop_drop, Nat.add_assoc] using this
                case measure => simp [intOf]; omega
              · have hns : ¬ (y1, y2) = (x1, x2) := fun e => by injection e with e1 e2; exact hxy ⟨e1.symm, e2.symm⟩
                have HNS := Lib.hid hns
                have HREL : ∀ nq, ∃ (q' p' : Nat) (m' : List Pr), q' = q + 1 ∧ p' = p + 1 ∧ Hid (m'.take p' = dd (l.take (j + 1 + (q' + 1)))) ∧ Hid (m'.drop (j + 1 + q') = l.drop (j + 1 + q')) ∧ Hid (OwnP 30 B (((wr.drewN nq).setCell ⟨g, p * 2, none⟩ (.int .u64 x1)).setCell ⟨g, p * 2 + 1, none⟩ (.int .u64 x2)) (.slice (some ⟨g, 0, none⟩) n cap) m') ∧ Below B w (((wr.drewN nq).setCell ⟨g, p * 2, none⟩ (.int .u64 x1)).setCell ⟨g, p * 2 + 1, none⟩ (.int .u64 x2)) := fun nq => by
                  refine ⟨q + 1, p + 1, m.set p (x1, x2), rfl, rfl, Lib.hid ?_, Lib.hid ?_, Lib.hid ((HOM.out.drewN nq).store hpm x1 x2), ((below_drN hBM nq).setCell hg _).setCell hg _⟩
                  · rw [take_set_succ hpm, HM1.out, show j + 1 + (q + 1 + 1) = j + 1 + (q + 1) + 1 by omega, HSN2.out, if_neg HNS.out]
                  · rw [drop_set_lt (by omega)]
                    have := congrArg (List.drop 1) HM2.out
                    simpa [List.drop_drop, Nat.add_assoc] using this
                have HR := Lib.hid HREL
                clear HREL hns
                by_cases hx1 : x1 = y1
                · have t1 : (x1 == y1) = true := by simpa using hx1
                  have t3 : (x1 != y1) = false := by simpa using hx1
                  have t2 : (x2 == y2) = false := by simpa using fun q => hxy ⟨hx1, q⟩
                  have t4 : (x2 != y2) = true := by simpa using fun q => hxy ⟨hx1, q⟩
                  clear hx1 hxy
                  go_wp2
                  go_quiet (fail)
                  go_wp2
                  go_roundw
                  case rel =>
                    obtain ⟨_, _, m', rfl, rfl, r1, r2, r3, r4⟩ := HR.out nq
                    exact ⟨q + 1, p + 1, m', by omega, by go_num, by go_num, by omega, by omega, r1, r2, r3, r4⟩
                  case measure => simp [intOf]; omega
                · have t1 : (x1 == y1) = false := by simpa using hx1
                  have t3 : (x1 != y1) = true := by simpa using hx1
                  clear hx1 hxy
                  go_wp2
                  go_quiet (fail)
                  go_wp2
                  go_roundw
                  case rel =>
                    obtain ⟨_, _, m', rfl, rfl, r1, r2, r3, r4⟩ := HR.out nq
                    exact ⟨q + 1, p + 1, m', by omega, by go_num, by go_num, by omega, by omega, r1, r2, r3, r4⟩
                  case measure => simp [intOf]; omega
            · have hqn : j + 1 + (q + 1) = n := by have := HSJ.out; omega
              have HQN := Lib.hid hqn
              have hpn : p < n := by omega
              clear hqn hcells hfro hgs
              have HO3 : Hid (OwnP 30 B wr (.slice (some ⟨g, 0, none⟩) m.length cap) m) := by
                have h := HOM.out
                rw [← HMN.out] at h
                exact Lib.hid h
              have hpm : p < m.length := by have := HMN.out; omega
              go_wp2_with (with_reducible refine wpList_clear_tailP rfl _ 22 rfl 30 Try.underlying22 zeroP B g cap m p hpm HO3.out _ _ rfl ?qcl ?_)
              case qcl => rw [HMN.out]
              intro w3 hO3 hb3
              go_wp2
              go_ret
              refine ⟨_, rfl, ?_, hBM.trans hb3⟩
              have e2 : l.take n = l := List.take_of_length_le (by have := HN.out; omega)
              have e1 : m.take p = dd l := by rw [HM1.out, HQN.out, e2]
              rw [e1] at hO3
              exact hO3
        · have hns : ¬ (y1, y2) = (x1, x2) := fun e => by injection e with e1 e2; exact hxy ⟨e1.symm, e2.symm⟩
          have HREL : Hid (dd (l.take (j + 1 + 1)) = l.take (j + 1 + 1)) := Lib.hid (by rw [HSN.out, if_neg hns, HP.out, HX.out, ← List.take_succ_eq_append_getElem hjl])
          clear hns
          by_cases hx1 : x1 = y1
          · have t1 : (x1 == y1) = true := by simpa using hx1
            have t3 : (x1 != y1) = false := by simpa using hx1
            have t2 : (x2 == y2) = false := by simpa using fun q => hxy ⟨hx1, q⟩
            have t4 : (x2 != y2) = true := by simpa using fun q => hxy ⟨hx1, q⟩
            clear hx1 hxy
            go_wp2
            go_quiet (fail)
            go_wp2
            go_roundw
            case rel => exact ⟨j + 1 + 1, by omega, by omega, by go_num, HREL, Lib.hid (HOR.out.drewN nq), below_drN hB nq⟩
            case measure => simp [intOf]; omega
          · have t1 : (x1 == y1) = false := by simpa using hx1
            have t3 : (x1 != y1) = true := by simpa using hx1
            clear hx1 hxy
            go_wp2
            go_quiet (fail)
            go_wp2
            go_roundw
            case rel => exact ⟨j + 1 + 1, by omega, by omega, by go_num, HREL, Lib.hid (HOR.out.drewN nq), below_drN hB nq⟩
            case measure => simp [intOf]; omega
      · have e : dd l = l := by
          have := HP.out
          rwa [List.take_of_length_le (by have := HN.out; omega)] at this
        have HE := Lib.hid e
        clear e
        go_wp2
        go_ret
        rw [HE.out]
        exact ⟨_, rfl, HOR.out, hB⟩
end Go.Proofs.Yteipihoebnmagaa
