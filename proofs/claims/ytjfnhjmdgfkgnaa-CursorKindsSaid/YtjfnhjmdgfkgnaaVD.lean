import Derived.ProofKit
import Derived.Carry
import Derived.Below
import Derived.Test.YtjfnhjmdgfkgnaaU13
import Derived.Test.YtjfnhjmdgfkgnaaRows
import Derived.Lib.SmallJoins
import Derived.Deep.Slices
import Derived.Deep.SlicePairs
import Derived.Test.YtjfnhjmdgfkgnaaV0
/- How a law's row follows from its walk: it answers true, and what lay there ahead of the call lies there as it lay. No program is named here. -/
namespace Go.Proofs.Kit
open Go.ChangeShapes Go.WideShapes Go.ChangeAt Go.RowKit

section
variable {H : Type} {enc : TypeId × Value → H} {P : Program}

theorem trodAll_below (hl : laidOutB P = true) {W W' : World} (hb : Below W.heap.size W W') :
    ∀ (ts : List TypeId) (vs : List Value) (ds : List (DataW H)) (ps : List MemPlace), ts.all (fun t => P.readableRec t && decide (t < P.types.size)) = true →
      DataW.TrodAll enc P W 0 (fun _ => true) true ts vs ds ps → (∀ x ∈ ps, x.block < W.heap.size) → DataW.TrodAll enc P W' 0 (fun b => decide (b < W.heap.size)) true ts vs ds ps
  | [], vs, ds, ps, _, h, _ => by
    obtain ⟨rfl, rfl, rfl⟩ := trodAll_nil h
    simp [DataW.TrodAll]
  | t :: ts, vs, ds, ps, ht, h, hlt => by
    obtain ⟨v, vs', d, ds', p, q, rfl, rfl, rfl, h1, h2⟩ := trodAll_cons h
    simp only [List.all_cons, Bool.and_eq_true, decide_eq_true_eq] at ht
    exact ⟨p, q, Below.trod hl ht.1.1 ht.1.2 h1 hb (fun x hx => hlt x (by simp [hx])), trodAll_below hl hb ts vs' ds' q ht.2 h2 (fun x hx => hlt x (by simp [hx])), rfl⟩

/-- The row's last step. -/
theorem law_post {f : Func} {s : ChangeSpec} {W W' : World} {args : Array Value} {ds gs : List (DataW H)} {before : List MemPlace} {t : TypeId}
    (hl : laidOutB P = true) (hts : f.params.toList.all (fun t => P.readableRec t && decide (t < P.types.size)) = true)
    (hrt : f.resultTypes = #[t]) (ht : P.underlying t = some .bool) (hv : s.vars = []) (hW : DataW.Whole enc P f.params.toList s.vars false W args.toList ds gs before)
    (hfn : s.fn H (ds ++ gs) = { results := [.lit (.bool true)], args := ds }) (hb : Below W.heap.size W W') : s.post enc P f false true false false W args (.bool true) W' := by
  obtain ⟨p, q, hA, hV, hps, hz, hn⟩ := hW
  have hV' := hV
  rw [hv] at hV'
  obtain ⟨rfl, rfl⟩ := trodVars_none hV'
  have hlt : ∀ x ∈ p, x.block < W.heap.size := fun x hx => DataW.Whole.lt (ts := f.params.toList) (vars := s.vars) (apart := false) ⟨p, [], hA, hV, hps, hz, hn⟩ x (by rw [hps]; simp [hx])
  refine ⟨ds, [], before, [], p, [], ⟨p, [], hA, hV, hps, hz, hn⟩, ?_, ?_, ?_, World.keptBut_mono (fun x hx => ?_) (hb.frame (· ∈ before)), fun h => by cases h⟩
  · rw [hfn, hrt]
    exact trodAll_mk1 (shut_bool ht true)
  · rw [hfn]
    exact trodAll_below hl hb _ _ _ _ hts hA hlt
  · rw [hfn, hv]
    rfl
  · refine ⟨hx, ?_⟩
    rw [hps, List.append_nil] at hx
    exact .inr (.inl hx)
end
end Go.Proofs.Kit


/- What the rows' proofs of this seat share: the program's own facts, and how arguments are opened. -/
namespace Go.Proofs.Ytjfnhjmdgfkgnaa
open Go.ChangeShapes Go.WideShapes Go.ChangeAt Go.RowKit Go.Joins Go.Proofs.Kit

theorem own : ownKnob Try.prog.godebug = none := by kernel_rfl
theorem laidOut : laidOutB Try.prog = true := by kernel_rfl
theorem wf_u64 {x : Int} (h : (Lit.int .u64 x).wf = true) : 0 ≤ x ∧ x < 18446744073709551616 := by
  simp [Lit.wf, IntKind.min, IntKind.max, IntKind.signed, IntKind.bits] at h
  omega
theorem cells_u64 : Try.prog.cellsOf 32 = 1 := by kernel_rfl
theorem cellsP : Try.prog.cellsOf 83 = 2 := by kernel_rfl
set_option maxRecDepth 100000 in
/-- An argument that is a slice of integers. -/
theorem open_argI {H : Type} {enc : TypeId × Value → H} {W : World} {r : Reach} {b0 : Nat} {v : Value} {d : DataW H} {p : List MemPlace} {t e : TypeId} {k : IntKind} (ht : Try.prog.underlying t = some (.slice e)) (he : Try.prog.underlying e = some (.int k)) (hc : Try.prog.cellsOf e = 1)
    (hv : Value.okWide Try.prog W r b0 t v) (h : DataW.Trod enc Try.prog W 0 (fun _ => true) true t v d p) :
    ∃ (o : Option Addr) (n c : Nat) (l : List Int), v = .slice o n c ∧ l.length = n ∧ n ≤ c ∧ c ≤ 9223372036854775807 ∧ ((o = none ∧ l = [] ∧ c = 0) ∨ ∃ a, o = some a ∧ ∀ i (h : i < l.length), W.cell? (a.add i) = some (.int k l[i])) ∧ ∀ x ∈ l, (Lit.int k x).wf = true := by
  obtain ⟨o, len, cap, rfl⟩ := okWide_slice ht hv
  obtain ⟨fuel, hf⟩ := h
  rcases open_ints ht he hc hf with ⟨h0, _⟩ | ⟨a, len', cap', zs, h0, _, hlc, hcm, hz, _, hcell, hwf⟩
  · simp [Value.cells] at h0
    obtain ⟨rfl, rfl, rfl⟩ := h0
    exact ⟨none, 0, 0, [], rfl, rfl, by omega, by omega, .inl ⟨rfl, rfl, rfl⟩, by simp⟩
  · simp [Value.cells] at h0
    obtain ⟨rfl, rfl, rfl⟩ := h0
    simp only [if_true] at hz
    unfold maxLen at hcm
    refine ⟨some a, len, cap, zs.take len, rfl, by simp; omega, hlc, by omega, .inr ⟨a, rfl, fun i hi => ?_⟩, fun x hx => hwf x (List.mem_of_mem_take hx)⟩
    have hi' : i < zs.length := by simp at hi; omega
    rw [hcell i hi', List.getElem_take]
    simp [List.getD, hi']
theorem cells_int : Try.prog.cellsOf 3 = 1 := by kernel_rfl
theorem cells_us : Try.prog.cellsOf 23 = 1 := by kernel_rfl
theorem cells_branches : Try.prog.cellsOf 22 = 1 := by kernel_rfl
theorem cells_branch : Try.prog.cellsOf 68 = 3 := by kernel_rfl
theorem cells_trie : Try.prog.cellsOf 25 = 2 := by kernel_rfl
section
variable {H : Type} {enc : TypeId × Value → H} {W : World}
theorem cells_us_open {fuel : Nat} {v : Value} {x : DataW H × List MemPlace} (h : DataW.trod enc Try.prog W 0 (fun _ => true) true fuel 23 [v] = some x) :
    ∃ (o : Option Addr) (n c : Nat) (l : List Int), v = .slice o n c ∧ l.length = n ∧ n ≤ c ∧ c ≤ 9223372036854775807 ∧ ArgI .u64 W o c l ∧ ∀ x ∈ l, 0 ≤ x ∧ x < 18446744073709551616 := by
  rcases open_ints Try.underlying23 Try.underlying32 cells_u64 h with ⟨h0, _⟩ | ⟨a, len', cap', zs, h0, _, hlc, hcm, hz, _, hcell, hwf⟩
  · simp only [List.cons.injEq, and_true] at h0
    exact ⟨none, 0, 0, [], h0, rfl, by omega, by omega, .inl ⟨rfl, rfl, rfl⟩, by simp⟩
  · simp only [List.cons.injEq, and_true] at h0
    subst h0
    simp only [if_true] at hz
    unfold maxLen at hcm
    refine ⟨some a, len', cap', zs.take len', rfl, by simp; omega, hlc, by omega, .inr ⟨a, rfl, fun i hi => ?_⟩, fun x hx => wf_u64 (hwf x (List.mem_of_mem_take hx))⟩
    have hi' : i < zs.length := by simp at hi; omega
    rw [hcell i hi', List.getElem_take]
    simp [List.getD, hi']
set_option maxRecDepth 100000 in
theorem cells_branches_open {fuel : Nat} {v : Value} {x : DataW H × List MemPlace} (h : DataW.trod enc Try.prog W 0 (fun _ => true) true fuel 22 [v] = some x) :
    ∃ (o : Option Addr) (n c : Nat) (l : List Br), v = .slice o n c ∧ l.length = n ∧ n ≤ c ∧ c ≤ 9223372036854775807 ∧ ArgR W o c l := by
  rcases Deep.open_slice Try.underlying22 h with ⟨h0, _⟩ | ⟨a, len, cap, m, n, D, Pl, h0, _, hl, hm, hmm, _, hx⟩
  · simp only [List.cons.injEq, and_true] at h0
    exact ⟨none, 0, 0, [], h0, rfl, by omega, by omega, .inl ⟨rfl, rfl, rfl⟩⟩
  · simp only [List.cons.injEq, and_true] at h0
    subst h0
    simp only [if_true] at hmm
    have each : ∀ i, i < len → ∃ q : Br, W.cell? (a.add (i * 3)) = some (.int .u64 q.1) ∧ W.cell? (a.add (i * 3 + 1)) = some (.int .i64 q.2.1) ∧ W.cell? (a.add (i * 3 + 2)) = some (.int .i64 q.2.2) := by
      intro i hi
      obtain ⟨cs', h1, h2⟩ := hx i (by omega)
      rw [cells_branch] at h1
      obtain ⟨_, hlen, hcell⟩ := World.cells?_some h1
      obtain ⟨xs, k, _, _, _, hxl, hf⟩ := DataW.trod_struct Try.underlying68 h2
      match xs, hxl, cs', hlen with
      | [y0, y1, y2], _, [v0, v1, v2], _ =>
        have g0 := hf 0 _ rfl
        have g1 := hf 1 _ rfl
        have g2 := hf 2 _ rfl
        simp [cells_u64, cells_int] at g0 g1 g2
        have e0 := hcell 0 (by omega)
        have e1 := hcell 1 (by omega)
        have e2 := hcell 2 (by omega)
        rw [Deep.add_add] at e0 e1 e2
        obtain ⟨x0, z0, _, _⟩ := DataW.trod_int Try.underlying32 g0
        obtain ⟨x1, z1, _, _⟩ := DataW.trod_int Try.underlying3 g1
        obtain ⟨x2, z2, _, _⟩ := DataW.trod_int Try.underlying3 g2
        simp only [List.cons.injEq, and_true] at z0 z1 z2
        subst z0 z1 z2
        exact ⟨(x0, x1, x2), by simpa using e0, by simpa using e1, by simpa using e2⟩
    obtain ⟨q, hq⟩ := Deep.choose_lt each
    unfold maxLen at hm
    refine ⟨some a, len, cap, (List.range len).map q, rfl, by simp, hl, by omega, .inr ⟨a, rfl, fun i hi => ?_⟩⟩
    have hi' : i < len := by simpa using hi
    simp only [List.getElem_map, List.getElem_range]
    exact hq i hi'
set_option maxRecDepth 100000 in
/-- An argument that is a trie. -/
theorem open_trie {r : Reach} {b0 : Nat} {v : Value} {d : DataW H} {p : List MemPlace} (hv : Value.okWide Try.prog W r b0 25 v) (h : DataW.Trod enc Try.prog W 0 (fun _ => true) true 25 v d p) :
    ∃ (ob : Option Addr) (m cb : Nat) (bs : List Br) (ol : Option Addr) (q cl : Nat) (lv : List Int), v = .agg #[.slice ob m cb, .slice ol q cl] ∧ bs.length = m ∧ m ≤ cb ∧ cb ≤ 9223372036854775807 ∧ ArgR W ob cb bs ∧
      lv.length = q ∧ q ≤ cl ∧ cl ≤ 9223372036854775807 ∧ ArgI .u64 W ol cl lv := by
  obtain ⟨cs, rfl, hcs⟩ := okWide_struct Try.underlying25 hv
  rw [cells_trie] at hcs
  obtain ⟨fuel, hf⟩ := h
  obtain ⟨xs, k, hk, _, _, hxl, hfl⟩ := DataW.trod_struct Try.underlying25 hf
  match cs, hcs, xs, hxl with
  | ⟨[v0, v1]⟩, _, [y0, y1], _ =>
    have g0 := hfl 0 _ rfl
    have g1 := hfl 1 _ rfl
    simp [cells_branches, cells_us, Value.cells] at g0 g1
    obtain ⟨ob, m, cb, bs, rfl, h1, h2, h3, h4⟩ := cells_branches_open g0
    obtain ⟨ol, q, cl, lv, rfl, h5, h6, h7, h8, _⟩ := cells_us_open g1
    exact ⟨ob, m, cb, bs, ol, q, cl, lv, rfl, h1, h2, h3, h4, h5, h6, h7, h8⟩
end
set_option maxRecDepth 100000 in
/-- An argument that is a slice of pairs. -/
theorem open_argP {H : Type} {enc : TypeId × Value → H} {W : World} {r : Reach} {b0 : Nat} {v : Value} {d : DataW H} {p : List MemPlace} (hv : Value.okWide Try.prog W r b0 46 v) (h : DataW.Trod enc Try.prog W 0 (fun _ => true) true 46 v d p) :
    ∃ (o : Option Addr) (n c : Nat) (l : List Pr), v = .slice o n c ∧ l.length = n ∧ n ≤ c ∧ c ≤ 9223372036854775807 ∧ ArgP W o c l ∧ ∀ x ∈ l, 0 ≤ x.1 ∧ x.1 < 18446744073709551616 ∧ 0 ≤ x.2 ∧ x.2 < 18446744073709551616 := by
  obtain ⟨o, len, cap, rfl⟩ := okWide_slice Try.underlying46 hv
  obtain ⟨fuel, hf⟩ := h
  rcases Deep.open_slice_pairs Try.underlying46 Try.underlying83 cellsP (by kernel_rfl) (by kernel_rfl) (by kernel_rfl) (by kernel_rfl) hf with ⟨h0, _⟩ | ⟨a, len', cap', m, n, V0, V1, D0, D1, P0, P1, h0, _, hlc, hcm, hm, _, hx⟩
  · simp [Value.cells] at h0
    obtain ⟨rfl, rfl, rfl⟩ := h0
    exact ⟨none, 0, 0, [], rfl, rfl, by omega, by omega, .inl ⟨rfl, rfl, rfl⟩, by simp⟩
  · simp [Value.cells] at h0
    obtain ⟨rfl, rfl, rfl⟩ := h0
    have hlm : len ≤ m := by rw [hm]; simp; exact hlc
    have each : ∀ i, i < len → ∃ q : Pr, W.cell? (a.add (i * 2)) = some (.int .u64 q.1) ∧ W.cell? (a.add (i * 2 + 1)) = some (.int .u64 q.2) ∧ 0 ≤ q.1 ∧ q.1 < 18446744073709551616 ∧ 0 ≤ q.2 ∧ q.2 < 18446744073709551616 := by
      intro i hi
      obtain ⟨e0, e1, t0, t1⟩ := hx i (by omega)
      obtain ⟨x, z0, _, wx⟩ := DataW.trod_int Try.underlying32 t0
      obtain ⟨y, z1, _, wy⟩ := DataW.trod_int Try.underlying32 t1
      simp at z0 z1
      rw [z0] at e0
      rw [z1] at e1
      exact ⟨(x, y), e0, e1, (wf_u64 wx).1, (wf_u64 wx).2, (wf_u64 wy).1, (wf_u64 wy).2⟩
    obtain ⟨q, hq⟩ := Deep.choose_lt each
    unfold maxLen at hcm
    refine ⟨some a, len, cap, (List.range len).map q, rfl, by simp, hlc, by omega, .inr ⟨a, rfl, fun i hi => ?_⟩, ?_⟩
    · have hi' : i < len := by simpa using hi
      obtain ⟨f0, f1, _⟩ := hq i hi'
      simp only [List.getElem_map, List.getElem_range]
      exact ⟨f0, f1⟩
    · intro p hp
      obtain ⟨i, hi, rfl⟩ := List.mem_map.1 hp
      exact (hq i (List.mem_range.1 hi)).2.2
set_option maxRecDepth 100000 in
/-- An argument that is a pair. -/
theorem open_pair {H : Type} {enc : TypeId × Value → H} {W : World} {r : Reach} {b0 : Nat} {v : Value} {d : DataW H} {p : List MemPlace} (hv : Value.okWide Try.prog W r b0 83 v) (h : DataW.Trod enc Try.prog W 0 (fun _ => true) true 83 v d p) :
    ∃ a b : Int, v = PV a b := by
  obtain ⟨c0, c1, y0, y1, m, rfl, rfl, rfl, hy0, hy1⟩ := open_agg2 Try.underlying83 (by kernel_rfl) cellsP hv h
  obtain ⟨a, e0, rfl, wa⟩ := DataW.trod_int Try.underlying32 hy0
  obtain ⟨b, e1, rfl, wb⟩ := DataW.trod_int Try.underlying32 hy1
  simp at e0 e1
  subst e0 e1
  exact ⟨a, b, rfl⟩
end Go.Proofs.Ytjfnhjmdgfkgnaa


/- An argument that is a trie, whose numbers lie within uint64. -/
namespace Go.Proofs.Ytjfnhjmdgfkgnaa
open Go.ChangeShapes Go.WideShapes Go.ChangeAt Go.RowKit Go.Joins Go.Proofs.Kit
section
variable {H : Type} {enc : TypeId × Value → H} {W : World}
set_option maxRecDepth 100000 in
theorem cells_branchesU_open {fuel : Nat} {v : Value} {x : DataW H × List MemPlace} (h : DataW.trod enc Try.prog W 0 (fun _ => true) true fuel 22 [v] = some x) :
    ∃ (o : Option Addr) (n c : Nat) (l : List Br), v = .slice o n c ∧ l.length = n ∧ n ≤ c ∧ c ≤ 9223372036854775807 ∧ ArgR W o c l ∧ ∀ x ∈ l, 0 ≤ x.1 ∧ x.1 < 18446744073709551616 := by
  rcases Deep.open_slice Try.underlying22 h with ⟨h0, _⟩ | ⟨a, len, cap, m, n, D, Pl, h0, _, hl, hm, hmm, _, hx⟩
  · simp only [List.cons.injEq, and_true] at h0
    exact ⟨none, 0, 0, [], h0, rfl, by omega, by omega, .inl ⟨rfl, rfl, rfl⟩, by simp⟩
  · simp only [List.cons.injEq, and_true] at h0
    subst h0
    simp only [if_true] at hmm
    have each : ∀ i, i < len → ∃ q : Br, (0 ≤ q.1 ∧ q.1 < 18446744073709551616) ∧ W.cell? (a.add (i * 3)) = some (.int .u64 q.1) ∧ W.cell? (a.add (i * 3 + 1)) = some (.int .i64 q.2.1) ∧ W.cell? (a.add (i * 3 + 2)) = some (.int .i64 q.2.2) := by
      intro i hi
      obtain ⟨cs', h1, h2⟩ := hx i (by omega)
      rw [cells_branch] at h1
      obtain ⟨_, hlen, hcell⟩ := World.cells?_some h1
      obtain ⟨xs, k, _, _, _, hxl, hf⟩ := DataW.trod_struct Try.underlying68 h2
      match xs, hxl, cs', hlen with
      | [y0, y1, y2], _, [v0, v1, v2], _ =>
        have g0 := hf 0 _ rfl
        have g1 := hf 1 _ rfl
        have g2 := hf 2 _ rfl
        simp [cells_u64, cells_int] at g0 g1 g2
        have e0 := hcell 0 (by omega)
        have e1 := hcell 1 (by omega)
        have e2 := hcell 2 (by omega)
        rw [Deep.add_add] at e0 e1 e2
        obtain ⟨x0, z0, _, hw0⟩ := DataW.trod_int Try.underlying32 g0
        obtain ⟨x1, z1, _, _⟩ := DataW.trod_int Try.underlying3 g1
        obtain ⟨x2, z2, _, _⟩ := DataW.trod_int Try.underlying3 g2
        simp only [List.cons.injEq, and_true] at z0 z1 z2
        subst z0 z1 z2
        exact ⟨(x0, x1, x2), wf_u64 hw0, by simpa using e0, by simpa using e1, by simpa using e2⟩
    obtain ⟨q, hq⟩ := Deep.choose_lt each
    unfold maxLen at hm
    refine ⟨some a, len, cap, (List.range len).map q, rfl, by simp, hl, by omega, .inr ⟨a, rfl, fun i hi => ?_⟩, fun x hx => ?_⟩
    · have hi' : i < len := by simpa using hi
      simp only [List.getElem_map, List.getElem_range]
      exact (hq i hi').2
    · obtain ⟨i, hi, rfl⟩ := List.mem_map.1 hx
      exact (hq i (List.mem_range.1 hi)).1
set_option maxRecDepth 100000 in
/-- An argument that is a trie. -/
theorem open_trieU {r : Reach} {b0 : Nat} {v : Value} {d : DataW H} {p : List MemPlace} (hv : Value.okWide Try.prog W r b0 25 v) (h : DataW.Trod enc Try.prog W 0 (fun _ => true) true 25 v d p) :
    ∃ (ob : Option Addr) (m cb : Nat) (bs : List Br) (ol : Option Addr) (q cl : Nat) (lv : List Int), v = .agg #[.slice ob m cb, .slice ol q cl] ∧ bs.length = m ∧ m ≤ cb ∧ cb ≤ 9223372036854775807 ∧ ArgR W ob cb bs ∧
      lv.length = q ∧ q ≤ cl ∧ cl ≤ 9223372036854775807 ∧ ArgI .u64 W ol cl lv ∧ U64s (keysB bs) ∧ U64s lv := by
  obtain ⟨cs, rfl, hcs⟩ := okWide_struct Try.underlying25 hv
  rw [cells_trie] at hcs
  obtain ⟨fuel, hf⟩ := h
  obtain ⟨xs, k, hk, _, _, hxl, hfl⟩ := DataW.trod_struct Try.underlying25 hf
  match cs, hcs, xs, hxl with
  | ⟨[v0, v1]⟩, _, [y0, y1], _ =>
    have g0 := hfl 0 _ rfl
    have g1 := hfl 1 _ rfl
    simp [cells_branches, cells_us, Value.cells] at g0 g1
    obtain ⟨ob, m, cb, bs, rfl, h1, h2, h3, h4, hu⟩ := cells_branchesU_open g0
    obtain ⟨ol, q, cl, lv, rfl, h5, h6, h7, h8, hl⟩ := cells_us_open g1
    exact ⟨ob, m, cb, bs, ol, q, cl, lv, rfl, h1, h2, h3, h4, h5, h6, h7, h8, fun x hx => (by unfold keysB at hx; obtain ⟨b, hb, rfl⟩ := List.mem_map.1 hx; exact hu b hb), hl⟩
end
end Go.Proofs.Ytjfnhjmdgfkgnaa

