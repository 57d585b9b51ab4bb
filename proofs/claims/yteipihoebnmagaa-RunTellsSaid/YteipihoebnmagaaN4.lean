/- copy of pairs, clear of pairs' tail, make of pairs: laws without a program; run.copied. -/
import Derived.Test.YteipihoebnmagaaN3
import Derived.Laws.CopyOwn
namespace Go.Proofs.Kit
open Go.RowKit

theorem SegP.src {w : World} {b f : Nat} {l : List Pr} (h : PCells w b f l) : ∀ j v, (flat l)[j]? = some v → w.cell? ((⟨b, f, none⟩ : Addr).add j) = some v := by
  intro j u hj
  have hjn : j < l.length * 2 := by have := (List.getElem?_eq_some_iff.1 hj).1; rwa [flat_length] at this
  have hk : j / 2 < l.length := by omega
  rw [Addr.add_lit]
  rcases Nat.mod_two_eq_zero_or_one j with h' | h'
  · have e : j = j / 2 * 2 := by omega
    rw [e] at hj ⊢
    rw [(h _ hk).1, ← hj, (flat_get l _ hk).1]
  · have e : j = j / 2 * 2 + 1 := by omega
    rw [e] at hj ⊢
    rw [show f + (j / 2 * 2 + 1) = f + j / 2 * 2 + 1 from rfl, (h _ hk).2, ← hj, (flat_get l _ hk).2]
theorem blk_setRow {w : World} {g : Nat} {cur : Array Value} {t : TypeId} (hb : Blk w g cur t) (cs : Array Value) : Blk (w.setRow g cs) g cs t := setRow_heap w g cur _ t _ hb
/-- copy(out, l), both of one length, out a row of the call's own. -/
theorem wpList_copyP {P : Program} {w : World} {ops : Array Oper} {rest : List Oper} {o : Oper} {a : Act} {Q : Exit → Act → World → Prop} (hgd : o.guard = none) (d s : Operand) (dT sT : TypeId)
    (ho : o.op = .call { callee := .builtin .copy, args := #[d, s], argTypes := #[dT, sT] }) (elem : TypeId) (hu : P.underlying dT = some (.slice elem)) (hsz : (P.info? elem).map (·.size) = some 2)
    (B : Nat) (v : Value) (l0 : List Pr) (hown : OwnP elem B w v l0) (hd : a.eval d = v) (vx : Value) (l : List Pr) (hseg : SegP w vx l) (hs : a.eval s = vx) (hlen : l0.length = l.length)
    (h : ∀ w', OwnP elem B w' v l → Below B w w' → wpList P ops Q rest (a.put o.dst (.int .i64 l.length)) w') : wpList P ops Q (o :: rest) a w := by
  refine wpList_plain hgd fun K hK => ?_
  have hl48 := hseg.1
  obtain ⟨i, hi, hi2⟩ : ∃ i, P.info? elem = some i ∧ i.size = 2 := by
    cases hq : P.info? elem with
    | none => simp [hq] at hsz
    | some i => exact ⟨i, rfl, by simpa [hq] using hsz⟩
  obtain ⟨so, sc, rfl, hsl, hsc, hsh⟩ := hseg.shape
  by_cases h0 : l = []
  · subst h0
    obtain rfl : l0 = [] := List.length_eq_zero_iff.1 hlen
    obtain ⟨vo, vc, rfl⟩ := hown.shape
    have hrun : (Builtin.copy_ #[dT, sT] o.type #[.slice vo 0 vc, .slice so 0 sc]).run P w = .ok (goInt 0) w := by
      cases so <;> cases vo <;> simp [Builtin.copy_, run_underlying hu, Builtin.lenOf, Builtin.firstCells, sizeOf, typeInfo, hi, storeCells, loadCells, loadCellsFrom]
    unfold Oper.wp
    have hd' : a.eval d = .slice vo 0 vc := hd
    have hs' : a.eval s = .slice so 0 sc := hs
    simp [execOp, ho, resolve, invoke, builtin, hd', hs', hrun, Result.andThen]
    exact hK _ _ (h w hown (Below.refl _ _))
  · have hpos : 0 < l.length := List.length_pos_iff.2 h0
    obtain ⟨b, f, rfl, hbl, hcells⟩ := hsh.resolve_left h0
    obtain ⟨g, cap, cur, rfl, h1, h2, h3, hg, hb, h4⟩ := hown.blk (by omega)
    have hl := run_loadCells_list (P := P) w ⟨b, f, none⟩ (flat l) (SegP.src hcells)
    rw [flat_length] at hl
    have hst := run_storeCells_at P g 0 elem (flat l) 0 cur w hb (by rw [flat_length]; omega) (flat_one l)
    simp only [Nat.zero_add] at hst
    have hrun : (Builtin.copy_ #[dT, sT] o.type #[.slice (some ⟨g, 0, none⟩) l0.length cap, .slice (some ⟨b, f, none⟩) l.length sc]).run P w =
        .ok (goInt l.length) (w.setRow g (cur.toList.take 0 ++ flat l ++ cur.toList.drop (flat l).length).toArray) := by
      simp [Builtin.copy_, run_underlying hu, Builtin.lenOf, Builtin.firstCells, sizeOf, typeInfo, hi, hi2, hlen, hl, hst]
    unfold Oper.wp
    simp [execOp, ho, resolve, invoke, builtin, hd, hs, hrun, Result.andThen]
    refine hK _ _ (h _ ?_ (below_setRow (Below.refl _ _) hg _))
    have hsize : (flat l ++ cur.toList.drop (flat l).length).toArray.size = cap * 2 := by
      simp [flat_length]; omega
    have := OwnP.of_blk (t := elem) (l := l) hg (blk_setRow hb (flat l ++ cur.toList.drop (flat l).length).toArray) (cap := cap) (by omega) h2 hl48 hsize (by rw [← flat_length]; simp)
    rw [hlen]
    exact this
def zeros (n : Nat) : List Pr := List.replicate n (0, 0)
theorem flat_zeros : ∀ n, flat (zeros n) = List.replicate (n * 2) (.int .u64 0)
  | 0 => rfl
  | n + 1 => by
    have := flat_zeros n
    unfold zeros at *
    rw [List.replicate_succ, flat, this, show (n + 1) * 2 = n * 2 + 1 + 1 by omega, List.replicate_succ, List.replicate_succ]
theorem madeCells_zeros (n : Nat) : (madeCells #[.int .u64 0, .int .u64 0] (n * 2)).toList = flat (zeros n) := by
  rw [flat_zeros]
  apply List.ext_getElem
  · simp [size_madeCells]
  · intro i h1 h2
    simp [madeCells]
    rcases Nat.mod_two_eq_zero_or_one i with e | e <;> simp [e]
end Go.Proofs.Kit
namespace Go.Proofs.Yteipihoebnmagaa
open Go.RowKit Go.Proofs.Kit

theorem sizeP : (Try.prog.info? 30).map (·.size) = some 2 := by kernel_rfl
set_option maxHeartbeats 1000000 in
theorem copied_any (v : Value) (l : List Pr) (w : World) (hs : SegP w v l) (hl : l.length ≤ 1000000000) :
    Calls Try.prog 40 #[v] w fun e w' => ∃ v', e = .returned v' ∧ OwnP 30 w.heap.size w' v' l ∧ Below w.heap.size w w' := by
  obtain ⟨i0, hi, hz0, hz1, hz2⟩ := infoP
  obtain ⟨o, c, rfl, hc, hm, _⟩ := hs.shape
  have HS := Lib.hid hs
  obtain ⟨n, hn⟩ : ∃ n, n = l.length := ⟨_, rfl⟩
  rw [← hn] at HS hl ⊢
  have HN := Lib.hid hn
  clear hn hs hc
  go_enter Try.func40, Try.ntmps40
  go_wp2_with (refine wpList_make_full _ rfl _ _ _ rfl w.heap.size 30 i0 (.agg #[.int .u64 0, .int .u64 0]) 2 Try.underlying22 hi hz0 hz1 .i64 .i64 _ _ n rfl rfl rfl rfl ?ma ?mb ?mc ?_)
  case ma => rw [hz2]; omega
  case mb => unfold maxLen; omega
  case mc => exact Nat.le_refl _
  intro w1 ho1 hg1
  have hb1 : Below w.heap.size w w1 := (Below.refl _ _).grown hg1 (Nat.le_refl _) (fun _ h => by cases h)
  have hO : OwnP 30 w.heap.size w1 (.slice (some ⟨w.heap.size, 0, none⟩) n n) (zeros n) := by
    have e : (zeros n).length = n := by simp [zeros]
    refine ⟨by rw [e]; omega, ?_⟩
    rw [e, ← madeCells_zeros]
    exact ho1
  have HO := Lib.hid hO
  have HS1 := Lib.hid (HS.out.later hb1)
  clear ho1 hO hg1
  go_wp2_with (with_reducible refine wpList_copyP rfl _ _ 22 22 rfl 30 Try.underlying22 sizeP w.heap.size _ _ HO.out rfl _ _ HS1.out rfl ?ca ?_)
  case ca => rw [← HN.out]; simp [zeros]
  rw [← HN.out]
  intro w2 hO2 hb2
  go_wp2
  go_ret
  exact ⟨_, rfl, hO2, hb1.trans hb2⟩
end Go.Proofs.Yteipihoebnmagaa
