/- copy of pairs, clear of pairs' tail, make of pairs: laws without a program; run.copied. -/
import Derived.Test.YtlhigfphfbmbjaaN3
import Derived.Laws.CopyOwn
namespace Go.Proofs.Kit
open Go.RowKit

theorem SegP.src {w : World} {b f : Nat} {l : List Pr} (h : PCells w b f l) : ∀ j v, (flat l)[j]? = some v → w.cell? ((⟨b, f, none⟩ : Addr).add j) = some v := by
  intro j u hj
  have hjn : j < l.length * 2 := by have := (List.getElem?_eq_some_iff.1 hj).1; rwa [flat_length] at this
  have hk : j / 2 < l.length := by omega
  rw [Addr.add_lit]
  rcases Nat.mod_two_eq_zero_or_one j with h' | h'
  · have e : j = j / 2 * 2 := by omega
    rw [e] at hj ⊢
    rw [(h _ hk).1, ← hj, (flat_get l _ hk).1]
  · have e : j = j / 2 * 2 + 1 := by omega
    rw [e] at hj ⊢
    rw [show f + (j / 2 * 2 + 1) = f + j / 2 * 2 + 1 from rfl, (h _ hk).2, ← hj, (flat_get l _ hk).2]
theorem blk_setRow {w : World} {g : Nat} {cur : Array Value} {t : TypeId} (hb : Blk w g cur t) (cs : Array Value) : Blk (w.setRow g cs) g cs t := setRow_heap w g cur _ t _ hb
/-- copy(out, l), both of one length, out a row of the call's own. -/
theorem wpList_copyP {P : Program} {w : World} {ops : Array Oper} {rest : List Oper} {o : Oper} {a : Act} {Q : Exit → Act → World → Prop} (hgd : o.guard = none) (d s : Operand) (dT sT : TypeId)
    (ho : o.op = .call { callee := .builtin .copy, args := #[d, s], argTypes := #[dT, sT] }) (elem : TypeId) (hu : P.underlying dT = some (.slice elem)) (hsz : (P.info? elem).map (·.size) = some 2)
    (B : Nat) (v : Value) (l0 : List Pr) (hown : OwnP elem B w v l0) (hd : a.eval d = v) (vx : Value) (l : List Pr) (hseg : SegP w vx l) (hs : a.eval s = vx) (hlen : l0.length = l.length)
    (h : ∀ w', OwnP elem B w' v l → Below B w w' → wpList P ops Q rest (a.put o.dst (.int .i64 l.length)) w') : wpList P ops Q (o :: rest) a w := by
  refine wpList_plain hgd fun K hK => ?_
  have hl48 := hseg.1
  obtain ⟨i, hi, hi2⟩ : ∃ i, P.info? elem = some i ∧ i.size = 2 := by
    cases hq : P.info? elem with
    | none => simp [hq] at hsz
    | some i => exact ⟨i, rfl, by simpa [hq] using hsz⟩
  obtain ⟨so, sc, rfl, hsl, hsc, hsh⟩ := hseg.shape
  by_cases h0 : l = []
  · subst h0
    obtain rfl : l0 = [] := List.length_eq_zero_iff.1 hlen
    obtain ⟨vo, vc, rfl⟩ := hown.shape
    have hrun : (Builtin.copy_ #[dT, sT] o.type #[.slice vo 0 vc, .slice so 0 sc]).run P w = .ok (goInt 0) w := by
      cases so <;> cases vo <;> simp [Builtin.copy_, run_underlying hu, Builtin.lenOf, Builtin.firstCells, sizeOf, typeInfo, hi, storeCells, loadCells, loadCellsFrom]
    unfold Oper.wp
    have hd' : a.eval d = .slice vo 0 vc := hd
    have hs' : a.eval s = .slice so 0 sc := hs
    simp [execOp, ho, resolve, invoke, builtin, hd', hs', hrun, Result.andThen]
    exact hK _ _ (h w hown (Below.refl _ _))
  · have hpos : 0 < l.length := List.length_pos_iff.2 h0
    obtain ⟨b, f, rfl, hbl, hcells⟩ := hsh.resolve_left h0
    obtain ⟨g, cap, cur, rfl, h1, h2, h3, hg, hb, h4⟩ := hown.blk (by omega)
    have hl := run_loadCells_list (P := P) w ⟨b, f, none⟩ (flat l) (SegP.src hcells)
    rw [flat_length] at hl
    have hst := run_storeCells_at P g 0 elem (flat l) 0 cur w hb (by rw [flat_length]; omega) (flat_one l)
    simp only [Nat.zero_add] at hst
    have hrun : (Builtin.copy_ #[dT, sT] o.type #[.slice (some ⟨g, 0, none⟩) l0.length cap, .slice (some ⟨b, f, none⟩) l.length sc]).run P w =
        .ok (goInt l.length) (w.setRow g (cur.toList.take 0 ++ flat l ++ cur.toList.drop (flat l).length).toArray) := by
      simp [Builtin.copy_, run_underlying hu, Builtin.lenOf, Builtin.firstCells, sizeOf, typeInfo, hi, hi2, hlen, hl, hst]
    unfold Oper.wp
    simp [execOp, ho, resolve, invoke, builtin, hd, hs, hrun, Result.andThen]
    refine hK _ _ (h _ ?_ (below_setRow (Below.refl _ _) hg _))
    have hsize : (flat l ++ cur.toList.drop (flat l).length).toArray.size = cap * 2 := by
      simp [flat_length]; omega
    have := OwnP.of_blk (t := elem) (l := l) hg (blk_setRow hb (flat l ++ cur.toList.drop (flat l).length).toArray) (cap := cap) (by omega) h2 hl48 hsize (by rw [← flat_length]; simp)
    rw [hlen]
    exact this
def zeros (n : Nat) : List Pr := List.replicate n (0, 0)
theorem flat_zeros : ∀ n, flat (zeros n) = List.replicate (n * 2) (.int .u64 0)
  | 0 => rfl
  | n + 1 => by
    have := flat_zeros n
    unfold zeros at *
    rw [List.replicate_succ, flat, this, show (n + 1) * 2 = n * 2 + 1 + 1 by omega, List.replicate_succ, List.replicate_succ]
theorem madeCells_zeros (n : Nat) : (madeCells #[.int .u64 0, .int .u64 0] (n * 2)).toList = flat (zeros n) := by
  rw [flat_zeros]
  apply List.ext_getElem
  · simp [size_madeCells]
  · intro i h1 h2
    simp [madeCells]
    rcases Nat.mod_two_eq_zero_or_one i with e | e <;> simp [e]
end Go.Proofs.Kit
namespace Go.Proofs.Ytlhigfphfbmbjaa
open Go.RowKit Go.Proofs.Kit

theorem sizeP : (Try.prog.info? 53).map (·.size) = some 2 := by kernel_rfl
end Go.Proofs.Ytlhigfphfbmbjaa

