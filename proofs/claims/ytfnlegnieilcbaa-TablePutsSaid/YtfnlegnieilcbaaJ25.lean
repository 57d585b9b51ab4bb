/- append: where the row lies then; own and same of tables that read as lists; the reference's Put. -/
import Derived.Test.YtfnlegnieilcbaaJ17
import Derived.Test.YtfnlegnieilcbaaJ20
import Derived.Test.YtfnlegnieilcbaaJ21
namespace Go.Proofs.Kit
open Go.RowKit
theorem append_where {P : Program} (w : World) (base : Nat) (t ty e : TypeId) (i : TypeInfo) (z : Value) (ht : P.underlying t = some (.slice e)) (hi : P.info? e = some i) (hz : i.zero = some z) (hsz : i.size = 1)
    (v : Value) (n : Nat) (xs : List Value) (hown : w.ownsRow base e 1 v n xs)
    (a : Addr) (m c : Nat) (news : List Value) (hl : news.length = m) (hnews : ∀ j u, news[j]? = some u → w.cell? (a.add j) = some u) (h1 : ∀ u ∈ news, u.oneCell' = true)
    (h63 : n + m ≤ maxLen) (hbytes : (n + m) * i.bytes ≤ 140737488355328) (v' : Value) (w' : World) (hr : (Builtin.append_ #[t, t] ty #[v, .slice (some a) m c]).run P w = .ok v' w') :
    v'.ownBlock = v.ownBlock ∨ v'.ownBlock = some w.heap.size := by
  have hl' : news.length = m * i.size := by rw [hsz]; omega
  rcases hown.2 with ⟨rfl, rfl⟩ | ⟨g, cap, cur, rfl, hbg, hg, hnc, hcm, hcs, htake⟩
  · have hx : xs = [] := List.eq_nil_of_length_eq_zero (by simpa using hown.1)
    subst hx
    by_cases hm : m = 0
    · subst hm
      have hn : news = [] := List.eq_nil_of_length_eq_zero hl
      subst hn
      left
      have hr0 : (Builtin.append_ #[t, t] ty #[.slice none 0 0, .slice (some a) 0 c]).run P w = .ok (.slice none 0 0) w := by
        simp [Builtin.append_, run_underlying ht, sizeOf, typeInfo, hi, Builtin.lenOf, Builtin.firstCells, loadCells, loadCellsFrom]
      rw [hr0] at hr
      injection hr with e1 _
      rw [← e1]
    · have hr0 := run_append_nil (P := P) w t ty e i z ht hi hz a m c news hl' hnews (by omega) (by simp only [maxLen] at h63; omega) (by have hb := hbytes; simp only [Nat.zero_add] at hb; omega)
      rw [hr0] at hr
      injection hr with e1 _
      rw [← e1]
      exact .inr rfl
  · by_cases hroom : n + m ≤ cap
    · have hfit : n * i.size + news.length ≤ cur.size := by rw [hl, hsz]; omega
      have hr0 := run_append_room (P := P) w t ty e i ht hi g n cap cur hg a m c news hl' hnews h1 hroom hfit
      rw [hr0] at hr
      injection hr with e1 _
      rw [← e1]
      exact .inl rfl
    · have holds : ∀ j u, xs[j]? = some u → w.cell? ((⟨g, 0, none⟩ : Addr).add j) = some u := hown.cells (g := g) rfl
      have hr0 := run_append_grow (P := P) w t ty e i z ht hi hz ⟨g, 0, none⟩ n cap xs (by rw [hsz]; simpa using hown.1) holds a m c news hl' hnews (by omega) (by simp only [maxLen] at h63; omega) (growslice_fits (by omega) hbytes)
      rw [hr0] at hr
      injection hr with e1 _
      rw [← e1]
      exact .inr rfl
theorem wp_append_sl2 {P : Program} {w : World} {o : Oper} {a : Act} {K : Act → World → Prop} {Q : Exit → Act → World → Prop} (s x : Operand) (t : TypeId)
    (ho : o.op = .call { callee := .builtin .append, args := #[s, x], argTypes := #[t, t] })
    (base : Nat) (e : TypeId) (i : TypeInfo) (z : Value) (bytes : Nat) (ht : P.underlying t = some (.slice e)) (hi : P.info? e = some i) (hz : i.zero = some z) (hsize : i.size = 1) (hby : i.bytes = bytes) (hzs : z.cells.size = 1)
    (v : Value) (l : List Value) (hs : a.eval s = v) (hown : Ow e base w v l) (vx : Value) (m : List Value) (hx : a.eval x = vx) (hm : Sl w vx m) (hm0 : m ≠ []) (hm1 : ∀ y ∈ m, y.oneCell' = true)
    (h63 : l.length + m.length ≤ 9223372036854775807) (hbytes : (l.length + m.length) * bytes ≤ 140737488355328) (hbase : base ≤ w.heap.size)
    (h : ∀ v' w', Ow e base w' v' (l ++ m) → w.grownBy w' v.ownBlock → (v'.ownBlock = v.ownBlock ∨ v'.ownBlock = some w.heap.size) → K (a.put o.dst v') w') : o.wp P a w K Q := by
  rcases hm.2 with ⟨_, rfl⟩ | ⟨b, f, c, rfl, h2, h3, h4, h5⟩
  · exact (hm0 rfl).elim
  · subst hby
    have hnews : ∀ j u, m[j]? = some u → w.cell? ((⟨b, f, none⟩ : Addr).add j) = some u := by
      intro j u hj
      have hj' : j < m.length := (List.getElem?_eq_some_iff.1 hj).1
      rw [Addr.add_lit, h5 j hj', ← hj]
      simp [hj']
    obtain ⟨v', w', hr, hO, hG, _⟩ := run_append_own (P := P) w base t o.type e i z 1 i.bytes ht hi hz hsize rfl hzs (by decide) v _ _ hown ⟨b, f, none⟩ m.length c m (by simp) hnews hm1 (by unfold maxLen; omega) hbytes hbase
    have hw := append_where w base t o.type e i z ht hi hz hsize v _ _ hown ⟨b, f, none⟩ m.length c m rfl hnews hm1 (by unfold maxLen; omega) hbytes v' w' hr
    unfold Oper.wp execOp
    simp only [ho, resolve, invoke, builtin, Sem.run_bind, Sem.run_pure, Result.andThen_ok, List.map_toArray, List.map_cons, List.map_nil, hs, hx, hr]
    refine h v' w' ?_ hG hw
    unfold Ow
    rw [List.length_append]
    exact hO
/-- append of one that lies in a block onto a row of the call's own; the row lies where it lay, or behind all. -/
theorem wpList_append_sl2 {P : Program} {w : World} {ops : Array Oper} {rest : List Oper} {o : Oper} {a : Act} {Q : Exit → Act → World → Prop} (hgd : o.guard = none) (s x : Operand) (t : TypeId)
    (ho : o.op = .call { callee := .builtin .append, args := #[s, x], argTypes := #[t, t] })
    (base : Nat) (e : TypeId) (i : TypeInfo) (z : Value) (bytes : Nat) (ht : P.underlying t = some (.slice e)) (hi : P.info? e = some i) (hz : i.zero = some z) (hsize : i.size = 1) (hby : i.bytes = bytes) (hzs : z.cells.size = 1)
    (v : Value) (l : List Value) (hs : a.eval s = v) (hown : Ow e base w v l) (vx : Value) (m : List Value) (hx : a.eval x = vx) (hm : Sl w vx m) (hm0 : m ≠ []) (hm1 : ∀ y ∈ m, y.oneCell' = true)
    (h63 : l.length + m.length ≤ 9223372036854775807) (hbytes : (l.length + m.length) * bytes ≤ 140737488355328) (hbase : base ≤ w.heap.size)
    (h : ∀ v' w', Ow e base w' v' (l ++ m) → w.grownBy w' v.ownBlock → (v'.ownBlock = v.ownBlock ∨ v'.ownBlock = some w.heap.size) → wpList P ops Q rest (a.put o.dst v') w') : wpList P ops Q (o :: rest) a w :=
  wpList_plain hgd fun _ hK => wp_append_sl2 s x t ho base e i z bytes ht hi hz hsize hby hzs v l hs hown vx m hx hm hm0 hm1 h63 hbytes hbase fun v' w' h1 h2 h3 => hK _ _ (h v' w' h1 h2 h3)
/-- The same as a step of a region that draws its order. -/
theorem step_append_sl2 {P : Program} {ops : Array Oper} {w : World} {o : Oper} {a : Act} {K : Act → World → Prop} {Q : Exit → Act → World → Prop} {E : Prop} (hgd : o.guard = none) (s x : Operand) (t : TypeId)
    (ho : o.op = .call { callee := .builtin .append, args := #[s, x], argTypes := #[t, t] })
    (base : Nat) (e : TypeId) (i : TypeInfo) (z : Value) (bytes : Nat) (ht : P.underlying t = some (.slice e)) (hi : P.info? e = some i) (hz : i.zero = some z) (hsize : i.size = 1) (hby : i.bytes = bytes) (hzs : z.cells.size = 1)
    (v : Value) (l : List Value) (hs : a.eval s = v) (hown : Ow e base w v l) (vx : Value) (m : List Value) (hx : a.eval x = vx) (hm : Sl w vx m) (hm0 : m ≠ []) (hm1 : ∀ y ∈ m, y.oneCell' = true)
    (h63 : l.length + m.length ≤ 9223372036854775807) (hbytes : (l.length + m.length) * bytes ≤ 140737488355328) (hbase : base ≤ w.heap.size)
    (h : ∀ v' w', Ow e base w' v' (l ++ m) → w.grownBy w' v.ownBlock → (v'.ownBlock = v.ownBlock ∨ v'.ownBlock = some w.heap.size) → K (a.put o.dst v') w') : if Region.wanted o (yielded ops a.tmps) = true then Oper.wp P o a w K Q else E := by
  rw [if_pos (by simp [Region.wanted, hgd])]
  exact wp_append_sl2 s x t ho base e i z bytes ht hi hz hsize hby hzs v l hs hown vx m hx hm hm0 hm1 h63 hbytes hbase h
end Go.Proofs.Kit
namespace Go.Proofs.Ytfnlegnieilcbaa
open Go.RowKit Go.Proofs.Kit Go.Shelf
theorem sl_argV {w : World} {o : Option Addr} {n c : Nat} {l : List Value} (h : Sl w (.slice o n c) l) : ArgV w o c l := by
  rcases h.2 with ⟨h1, rfl⟩ | ⟨b, off, cap, h1, h2, h3, h4, h5⟩
  · injection h1 with e1 _ e3
    subst e1 e3
    exact .inl ⟨rfl, rfl, rfl⟩
  · injection h1 with e1 _ e3
    subst e1 e3
    exact .inr ⟨_, rfl, fun i hi => by rw [Addr.add_lit]; exact h5 i hi⟩
theorem own_sl (vT vS : Value) (T : List ByteArray) (S : List Int) (w : World) (hT : Sl w vT (T.map Value.string)) (hS : Sl w vS (S.map (Value.int .i64))) (hTl : T.length ≤ 100000) (hSl : S.length ≤ 100000) :
    Calls Try.prog 10 #[.agg #[vT, vS]] w fun e w' => ∃ vT vS, e = .returned (.agg #[vT, vS]) ∧ Ow 9 w.heap.size w' vT (T.map Value.string) ∧ Ow 3 w.heap.size w' vS (S.map (Value.int .i64)) ∧ Below w.heap.size w w' := by
  obtain ⟨o1, x1, rfl, _, _, _⟩ := hT.mshape
  obtain ⟨o2, x2, rfl, _, _, _⟩ := hS.mshape
  exact own_any o1 o2 _ x1 _ x2 T S w rfl rfl hTl hSl (sl_argV hT) (sl_argV hS)
theorem same_sl (vT vS vT' vS' : Value) (T : List ByteArray) (S : List Int) (w : World) (hT : Sl w vT (T.map Value.string)) (hS : Sl w vS (S.map (Value.int .i64))) (hT' : Sl w vT' (T.map Value.string)) (hS' : Sl w vS' (S.map (Value.int .i64))) :
    Calls Try.prog 19 #[.agg #[vT, vS], .agg #[vT', vS']] w fun e w' => e = .returned (.bool true) ∧ Gr w w' := by
  obtain ⟨o1, x1, rfl, _, _, _⟩ := hT'.mshape
  obtain ⟨o2, x2, rfl, _, _, _⟩ := hS'.mshape
  exact same_raw vT vS o1 o2 _ x1 _ x2 T S w hT hS rfl rfl (sl_argV hT') (sl_argV hS')
set_option maxHeartbeats 1000000 in
theorem rput_any (B : Nat) (vA : Value) (T : List ByteArray) (s : ByteArray) (w : World) (hA : Ow 9 B w vA (T.map Value.string)) (hB : B ≤ w.heap.size) (hTl : T.length ≤ 1000) (T' : List ByteArray) (p : Nat) (hp : PutT T s T' p) :
    Calls Try.prog 21 #[vA, .string s] w fun e w' => ∃ vA', e = .returned (.tuple #[vA', .int .i64 (p : Int), .bool true]) ∧ Ow 9 B w' vA' (T'.map Value.string) ∧ (vA' = vA ∨ ∀ g, vA'.ownBlock = some g → w.heap.size ≤ g) ∧ Below w.heap.size w w' := by
  obtain ⟨i0, hi, hz0, hz1, hz2⟩ := infos
  have hfind := rfind_any vA T s w hA.sl
  have HA := Lib.hid hA
  obtain ⟨o, c, rfl, hc, hm, -⟩ := hA.sl.mshape
  rcases hp with ⟨h1, rfl, rfl⟩ | ⟨h1, h2, rfl, rfl⟩
  · have hf : fdI T' s = (pos T' s : Int) := by unfold fdI; rw [if_pos h1]
    rw [hf] at hfind
    obtain ⟨q, hq⟩ : ∃ q, q = pos T' s := ⟨_, rfl⟩
    rw [← hq] at hfind ⊢
    have hq0 : decide (0 ≤ (q : Int)) = true := by rw [decide_eq_true_eq]; omega
    clear hq hf hA
    go_enter Try.func21, Try.ntmps21
    go_wp2_with (go_at_call 15; refine hfind.mono ?_; rintro e w' ⟨rfl, rfl⟩)
    exact bodyPost_ret (v := .tuple #[.slice o T'.length c, .int .i64 (q : Int), .bool true]) (by simp [results, Try.results21, go_sem]) rfl ⟨_, rfl, HA.out, .inl rfl, Below.refl _ _⟩
  · have hf : fdI T s = -1 := by unfold fdI; rw [if_neg h1]
    rw [hf] at hfind
    obtain ⟨q, hq⟩ : ∃ q, q = T.length := ⟨_, rfl⟩
    have HQ := Lib.hid hq
    rw [← hq] at hfind hc hTl hA HA ⊢
    have hq0 : decide (0 ≤ (-1 : Int)) = false := rfl
    have hq1 : ((q : Int) == 1024) = false := by rw [beq_eq_false_iff_ne]; omega
    have hn0 := Ow.new (t := 9) (B := w.heap.size) (vs := #[]) (l := []) (w := w) (Nat.le_refl _) rfl (by simp)
    simp only [List.length_nil] at hn0
    have HN0 := Lib.hid hn0
    have HAA := Lib.hid (hA.sl.alloc (.cells #[] 9))
    clear hq hf hA h1 hn0
    go_enter Try.func21, Try.ntmps21
    go_wp2_with (first | (go_at_call 15; refine hfind.mono ?_; rintro e w' ⟨rfl, rfl⟩) | (at_builtin; refine wpList_append_sl rfl _ _ 22 rfl _ 9 i0 (.string ⟨#[]⟩) 16 Try.underlying22 hi hz0 hz1 hz2 rfl _ _ rfl HN0.out _ _ rfl HAA.out ?qb ?qc ?qd ?qe ?_))
    case qb => intro y hy; obtain ⟨s, _, rfl⟩ := List.mem_map.1 hy; rfl
    case qc => have := HQ.out; simp; omega
    case qd => have := HQ.out; simp; omega
    case qe => simp
    intro v1 w1 hO1 hG1
    have hB1 : Below w'.heap.size w' w1 := ((Below.refl _ _).alloc (Nat.le_refl _) _).grown hG1 (by simp) (fun g hg => (HN0.out.lt g hg).1)
    have HO1 := Lib.hid (hO1.alloc (.cells #[.string s] 9))
    obtain ⟨o1, x1, e1⟩ := hO1.shape
    rw [List.length_map, ← HQ.out] at e1
    subst e1
    clear hO1 hG1 HN0 HAA
    go_wp2_with (at_builtin; refine wpList_append_sl rfl _ _ 22 rfl w'.heap.size 9 i0 (.string ⟨#[]⟩) 16 Try.underlying22 hi hz0 hz1 hz2 rfl _ _ rfl HO1.out _ [.string s] rfl ?ra ?rb ?rc ?rd ?re ?_)
    case ra => exact Sl.of_blk (Blk.new _ _ _) (by simp) (by simp) (by simp)
    case rb => simp [Value.oneCell']
    case rc => have := HQ.out; simp; omega
    case rd => have := HQ.out; simp; omega
    case re => simp; have := hB1.size; omega
    rw [show T.map Value.string ++ [Value.string s] = (T ++ [s]).map Value.string by simp]
    intro v2 w2 hO2 hG2
    have hB2 : Below w'.heap.size w' w2 := (hB1.alloc hB1.size _).grown hG2 (by simp; have := hB1.size; omega) (fun g hg => (HO1.out.lt g hg).1)
    have HO2 := Lib.hid hO2
    clear hO2 hG2 HO1
    go_wp2
    exact bodyPost_ret (v := .tuple #[v2, .int .i64 (q : Int), .bool true]) (by simp [results, Try.results21, go_sem]) rfl ⟨_, rfl, HO2.out.mono hB, .inr fun g hg => (HO2.out.lt g hg).1, hB2⟩
end Go.Proofs.Ytfnlegnieilcbaa
