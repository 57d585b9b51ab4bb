/- slices.Concat of rows of bytes that came in, or are the call's own. -/
import Derived.Test.YtmghbejbdkoehaaMo
import Derived.Test.YtmghbejbdkoehaaMg
import Derived.Laws.CopyOwn
namespace Go.Proofs.Ytmghbejbdkoehaa
open Go.RowKit Go.Proofs.Kit Go.Shelf

theorem seg_argI {k : IntKind} {w : World} {v : Value} {l : List Int} (h : Seg k w v l) : ∃ o c, v = .slice o l.length c ∧ ArgI k w o c l := by
  rcases h.2 with ⟨rfl, rfl⟩ | ⟨b, f, c, rfl, h2, h3, h4, h5⟩
  · exact ⟨none, 0, rfl, .inl ⟨rfl, rfl, rfl⟩⟩
  · exact ⟨_, c, rfl, .inr ⟨_, rfl, fun i hi => by rw [Addr.add_lit]; exact h5 i hi⟩⟩
theorem wpList_append_argI {P : Program} {w : World} {ops : Array Oper} {rest : List Oper} {o : Oper} {a : Act} {Q : Exit → Act → World → Prop} (hgd : o.guard = none) (s x : Operand) (t : TypeId)
    (ho : o.op = .call { callee := .builtin .append, args := #[s, x], argTypes := #[t, t] }) (k : IntKind)
    (base : Nat) (e : TypeId) (i : TypeInfo) (z : Value) (bytes : Nat) (ht : P.underlying t = some (.slice e)) (hi : P.info? e = some i) (hz : i.zero = some z) (hsize : i.size = 1) (hby : i.bytes = bytes) (hzs : z.cells.size = 1)
    (v : Value) (l : List Int) (hs : a.eval s = v) (hown : Owns k e base w v l) (ox : Option Addr) (n c : Nat) (m : List Int) (hx : a.eval x = .slice ox n c) (hm : ArgI k w ox c m) (hn : m.length = n)
    (h63 : l.length + m.length ≤ 9223372036854775807) (hbytes : (l.length + m.length) * bytes ≤ 140737488355328) (hbase : base ≤ w.heap.size)
    (h : ∀ v' w', Owns k e base w' v' (l ++ m) → Below base w w' → wpList P ops Q rest (a.put o.dst v') w') : wpList P ops Q (o :: rest) a w := by
  rcases hm with ⟨rfl, rfl, rfl⟩ | ⟨ad, rfl, h5⟩
  · subst hn
    exact wpList_append_own_none hgd s x t ho base e i 1 ht hi v _ _ hs hown hx (h v w (by simpa using hown) (Below.refl _ _))
  · refine wpList_append_own w hgd s x t ho base e i z 1 bytes ht hi hz hsize hby hzs (by decide) v _ _ hs hown ad n c (m.map (Value.int k)) hx (by simp [hn]) ?_ (ints_oneCell _ _) (by unfold maxLen; omega) (by rw [← hn]; exact hbytes) hbase ?_
    · intro j u hj
      have hj' : j < m.length := by have := (List.getElem?_eq_some_iff.1 hj).1; simpa using this
      rw [h5 j hj', ← hj]
      simp [hj']
    · intro v' w' hO hG _
      refine h v' w' ?_ ((Below.refl _ _).grown hG hbase (fun g hg => (hown.lt g hg).1))
      unfold Owns
      rw [List.length_append, List.map_append, hn]
      exact hO
def preb2 (a b : Nat) : Nat → Nat
  | 0 => 0
  | 1 => a
  | _ => a + b
def accb2 (a b : List Int) : Nat → List Int
  | 0 => []
  | 1 => a
  | _ => a ++ b
set_option maxRecDepth 100000 in
set_option maxHeartbeats 2000000 in
theorem concata3 (sb : Nat) (o1 o2 o3 : Option Addr) (n1 n2 n3 c1 c2 c3 : Nat) (l1 l2 l3 : List Int) (w : World) (hb : Blk w sb #[.slice o1 n1 c1, .slice o2 n2 c2, .slice o3 n3 c3] 59) (s1 : ArgI .u8 w o1 c1 l1) (hn1 : n1 = l1.length) (s2 : ArgI .u8 w o2 c2 l2) (hn2 : n2 = l2.length) (s3 : ArgI .u8 w o3 c3 l3) (hn3 : n3 = l3.length)
    (h1 : n1 ≤ 1000000) (h2 : n2 ≤ 1000000) (h3 : n3 ≤ 1000000) :
    Calls Try.prog 36 #[.slice (some ⟨sb, 0, none⟩) 3 3] w fun e w' => ∃ v', e = .returned v' ∧ Owns .u8 5 w.heap.size w' v' (l1 ++ l2 ++ l3) ∧ Below w.heap.size w w' := by
  obtain ⟨i0, hi, hz0, hz1, hz2⟩ := infob
  have hlt := hb.lt
  have HBK := Lib.hid hb
  have S1 := Lib.hid s1
  have S2 := Lib.hid s2
  have S3 := Lib.hid s3
  have N1 := Lib.hid hn1
  have N2 := Lib.hid hn2
  have N3 := Lib.hid hn3
  clear s1 s2 s3 hn1 hn2 hn3 hb
  have d0 := HBK.out.cell 0
  have d1 := HBK.out.cell 1
  have d2 := HBK.out.cell 2
  simp only [List.getElem?_toArray, List.getElem?_cons_zero, List.getElem?_cons_succ] at d0 d1 d2
  go_enter Try.func36, Try.ntmps36
  go_wp2
  go_loop [3, 5, 11] (fun s _ i => ∃ k : Nat, k ≤ 3 ∧ i = .int .i64 (k : Int) ∧ s = .int .i64 ((pre3 n1 n2 n3 k : Nat) : Int)) (fun _ _ i => 3 - (intOf i).toNat)
  case atStart => exact ⟨0, by omega, rfl, rfl⟩
  case round =>
    obtain ⟨k, hk, rfl, rfl⟩ := hrel
    have hk4 : k = 0 ∨ k = 1 ∨ k = 2 ∨ k = 3 := by omega
    rcases hk4 with rfl | rfl | rfl | rfl
    · simp only [pre3]
      go_wp2
      go_round
      case rel => exact ⟨1, by omega, rfl, by simp⟩
      case measure => simp [intOf]
    · simp only [pre3]
      go_wp2
      go_round
      case rel => exact ⟨2, by omega, rfl, by simp⟩
      case measure => simp [intOf]
    · simp only [pre3]
      go_wp2
      go_round
      case rel => exact ⟨3, by omega, rfl, by simp⟩
      case measure => simp [intOf]
    · simp only [pre3]
      go_wp2_with fail
      refine (grow_any (n1 + n2 + n3) (by omega) _).mono ?_
      rintro e w1 ⟨⟨v', rfl, ho⟩, hb1⟩
      clear d0 d1 d2
      go_wp2
      go_loopw [6, 8, 27] (fun s _ i wr => ∃ k : Nat, k ≤ 3 ∧ i = .int .i64 (k : Int) ∧ Owns .u8 5 w.heap.size wr s (acc3 l1 l2 l3 k) ∧ Below w.heap.size w wr) (fun _ _ i _ => 3 - (intOf i).toNat)
      case atStart => exact ⟨0, by omega, rfl, ho, hb1⟩
      case round =>
        obtain ⟨k, hk, rfl, hO, hB⟩ := hrel
        have hbk := HBK.out.below hB hlt
        have d0 := hbk.cell 0
        have d1 := hbk.cell 1
        have d2 := hbk.cell 2
        simp only [List.getElem?_toArray, List.getElem?_cons_zero, List.getElem?_cons_succ] at d0 d1 d2
        have T1 := S1.out.later hB
        have T2 := S2.out.later hB
        have T3 := S3.out.later hB
        have hk4 : k = 0 ∨ k = 1 ∨ k = 2 ∨ k = 3 := by omega
        rcases hk4 with rfl | rfl | rfl | rfl
        · go_wp2_with (at_builtin; refine wpList_append_argI rfl _ _ 59 rfl .u8 w.heap.size 5 i0 (.int .u8 0) 1 Try.underlying59 hi hz0 hz1 hz2 rfl _ _ rfl hO o1 n1 c1 l1 rfl T1 N1.out.symm ?qa0 ?qb0 ?qc0 ?_)
          case qa0 => have := N1.out; have := N2.out; have := N3.out; simp [acc3]; try omega
          case qb0 => have := N1.out; have := N2.out; have := N3.out; simp [acc3]; try omega
          case qc0 => exact hB.size
          intro v2 w2 hO2 hb2
          go_wp2
          go_roundw
          case rel => exact ⟨1, by omega, rfl, by simpa [acc3] using hO2, hB.trans hb2⟩
          case measure => simp [intOf]
        · go_wp2_with (at_builtin; refine wpList_append_argI rfl _ _ 59 rfl .u8 w.heap.size 5 i0 (.int .u8 0) 1 Try.underlying59 hi hz0 hz1 hz2 rfl _ _ rfl hO o2 n2 c2 l2 rfl T2 N2.out.symm ?qa1 ?qb1 ?qc1 ?_)
          case qa1 => have := N1.out; have := N2.out; have := N3.out; simp [acc3]; try omega
          case qb1 => have := N1.out; have := N2.out; have := N3.out; simp [acc3]; try omega
          case qc1 => exact hB.size
          intro v2 w2 hO2 hb2
          go_wp2
          go_roundw
          case rel => exact ⟨2, by omega, rfl, by simpa [acc3] using hO2, hB.trans hb2⟩
          case measure => simp [intOf]
        · go_wp2_with (at_builtin; refine wpList_append_argI rfl _ _ 59 rfl .u8 w.heap.size 5 i0 (.int .u8 0) 1 Try.underlying59 hi hz0 hz1 hz2 rfl _ _ rfl hO o3 n3 c3 l3 rfl T3 N3.out.symm ?qa2 ?qb2 ?qc2 ?_)
          case qa2 => have := N1.out; have := N2.out; have := N3.out; simp [acc3]; try omega
          case qb2 => have := N1.out; have := N2.out; have := N3.out; simp [acc3]; try omega
          case qc2 => exact hB.size
          intro v2 w2 hO2 hb2
          go_wp2
          go_roundw
          case rel => exact ⟨3, by omega, rfl, by simpa [acc3] using hO2, hB.trans hb2⟩
          case measure => simp [intOf]
        · go_wp2
          go_ret
          exact ⟨_, rfl, hO, hB⟩
set_option maxRecDepth 100000 in
set_option maxHeartbeats 2000000 in
theorem concata2 (sb : Nat) (o1 o2 : Option Addr) (n1 n2 c1 c2 : Nat) (l1 l2 : List Int) (w : World) (hb : Blk w sb #[.slice o1 n1 c1, .slice o2 n2 c2] 59) (s1 : ArgI .u8 w o1 c1 l1) (hn1 : n1 = l1.length) (s2 : ArgI .u8 w o2 c2 l2) (hn2 : n2 = l2.length)
    (h1 : n1 ≤ 1000000) (h2 : n2 ≤ 1000000) :
    Calls Try.prog 36 #[.slice (some ⟨sb, 0, none⟩) 2 2] w fun e w' => ∃ v', e = .returned v' ∧ Owns .u8 5 w.heap.size w' v' (l1 ++ l2) ∧ Below w.heap.size w w' := by
  obtain ⟨i0, hi, hz0, hz1, hz2⟩ := infob
  have hlt := hb.lt
  have HBK := Lib.hid hb
  have S1 := Lib.hid s1
  have S2 := Lib.hid s2
  have N1 := Lib.hid hn1
  have N2 := Lib.hid hn2
  clear s1 s2 hn1 hn2 hb
  have d0 := HBK.out.cell 0
  have d1 := HBK.out.cell 1
  simp only [List.getElem?_toArray, List.getElem?_cons_zero, List.getElem?_cons_succ] at d0 d1
  go_enter Try.func36, Try.ntmps36
  go_wp2
  go_loop [3, 5, 11] (fun s _ i => ∃ k : Nat, k ≤ 2 ∧ i = .int .i64 (k : Int) ∧ s = .int .i64 ((preb2 n1 n2 k : Nat) : Int)) (fun _ _ i => 2 - (intOf i).toNat)
  case atStart => exact ⟨0, by omega, rfl, rfl⟩
  case round =>
    obtain ⟨k, hk, rfl, rfl⟩ := hrel
    have hk4 : k = 0 ∨ k = 1 ∨ k = 2 := by omega
    rcases hk4 with rfl | rfl | rfl
    · simp only [preb2]
      go_wp2
      go_round
      case rel => exact ⟨1, by omega, rfl, by simp⟩
      case measure => simp [intOf]
    · simp only [preb2]
      go_wp2
      go_round
      case rel => exact ⟨2, by omega, rfl, by simp⟩
      case measure => simp [intOf]
    · simp only [preb2]
      go_wp2_with fail
      refine (grow_any (n1 + n2) (by omega) _).mono ?_
      rintro e w1 ⟨⟨v', rfl, ho⟩, hb1⟩
      clear d0 d1
      go_wp2
      go_loopw [6, 8, 27] (fun s _ i wr => ∃ k : Nat, k ≤ 2 ∧ i = .int .i64 (k : Int) ∧ Owns .u8 5 w.heap.size wr s (accb2 l1 l2 k) ∧ Below w.heap.size w wr) (fun _ _ i _ => 2 - (intOf i).toNat)
      case atStart => exact ⟨0, by omega, rfl, ho, hb1⟩
      case round =>
        obtain ⟨k, hk, rfl, hO, hB⟩ := hrel
        have hbk := HBK.out.below hB hlt
        have d0 := hbk.cell 0
        have d1 := hbk.cell 1
        simp only [List.getElem?_toArray, List.getElem?_cons_zero, List.getElem?_cons_succ] at d0 d1
        have T1 := S1.out.later hB
        have T2 := S2.out.later hB
        have hk4 : k = 0 ∨ k = 1 ∨ k = 2 := by omega
        rcases hk4 with rfl | rfl | rfl
        · go_wp2_with (at_builtin; refine wpList_append_argI rfl _ _ 59 rfl .u8 w.heap.size 5 i0 (.int .u8 0) 1 Try.underlying59 hi hz0 hz1 hz2 rfl _ _ rfl hO o1 n1 c1 l1 rfl T1 N1.out.symm ?qa0 ?qb0 ?qc0 ?_)
          case qa0 => have := N1.out; have := N2.out; simp [accb2]; try omega
          case qb0 => have := N1.out; have := N2.out; simp [accb2]; try omega
          case qc0 => exact hB.size
          intro v2 w2 hO2 hb2
          go_wp2
          go_roundw
          case rel => exact ⟨1, by omega, rfl, by simpa [accb2] using hO2, hB.trans hb2⟩
          case measure => simp [intOf]
        · go_wp2_with (at_builtin; refine wpList_append_argI rfl _ _ 59 rfl .u8 w.heap.size 5 i0 (.int .u8 0) 1 Try.underlying59 hi hz0 hz1 hz2 rfl _ _ rfl hO o2 n2 c2 l2 rfl T2 N2.out.symm ?qa1 ?qb1 ?qc1 ?_)
          case qa1 => have := N1.out; have := N2.out; simp [accb2]; try omega
          case qb1 => have := N1.out; have := N2.out; simp [accb2]; try omega
          case qc1 => exact hB.size
          intro v2 w2 hO2 hb2
          go_wp2
          go_roundw
          case rel => exact ⟨2, by omega, rfl, by simpa [accb2] using hO2, hB.trans hb2⟩
          case measure => simp [intOf]
        · go_wp2
          go_ret
          exact ⟨_, rfl, hO, hB⟩
end Go.Proofs.Ytmghbejbdkoehaa

