/- append onto a row of the call's own, of whatever slice of integers, nil too: no program is named here. -/
import Derived.Test.YtlhigfphfbmbjaaSeg
import Derived.Laws.AppendOwnNone
namespace Go.Proofs.Kit
open Go.RowKit

theorem wpList_append_seg {P : Program} {w : World} {ops : Array Oper} {rest : List Oper} {o : Oper} {a : Act} {Q : Exit → Act → World → Prop} (hgd : o.guard = none) (s x : Operand) (t : TypeId)
    (ho : o.op = .call { callee := .builtin .append, args := #[s, x], argTypes := #[t, t] }) (k : IntKind)
    (base : Nat) (e : TypeId) (i : TypeInfo) (z : Value) (bytes : Nat) (ht : P.underlying t = some (.slice e)) (hi : P.info? e = some i) (hz : i.zero = some z) (hsize : i.size = 1) (hby : i.bytes = bytes) (hzs : z.cells.size = 1)
    (v : Value) (l : List Int) (hs : a.eval s = v) (hown : Owns k e base w v l) (vx : Value) (m : List Int) (hx : a.eval x = vx) (hm : Seg k w vx m)
    (h63 : l.length + m.length ≤ 9223372036854775807) (hbytes : (l.length + m.length) * bytes ≤ 140737488355328) (hbase : base ≤ w.heap.size)
    (h : ∀ v' w', Owns k e base w' v' (l ++ m) → Below base w w' → wpList P ops Q rest (a.put o.dst v') w') : wpList P ops Q (o :: rest) a w := by
  rcases hm.2 with ⟨rfl, rfl⟩ | ⟨b, f, c, rfl, h2, h3, h4, h5⟩
  · exact wpList_append_own_none hgd s x t ho base e i 1 ht hi v _ _ hs hown hx (h v w (by simpa using hown) (Below.refl _ _))
  · refine wpList_append_own w hgd s x t ho base e i z 1 bytes ht hi hz hsize hby hzs (by decide) v _ _ hs hown ⟨b, f, none⟩ m.length c (m.map (Value.int k)) hx (by simp) ?_ (ints_oneCell _ _) (by unfold maxLen; omega) hbytes hbase ?_
    · intro j u hj
      have hj' : j < m.length := by have := (List.getElem?_eq_some_iff.1 hj).1; simpa using this
      rw [Addr.add_lit, h5 j hj', ← hj]
      simp [hj']
    · intro v' w' hO hG _
      refine h v' w' ?_ ((Below.refl _ _).grown hG hbase (fun g hg => (hown.lt g hg).1))
      unfold Owns
      rw [List.length_append, List.map_append]
      exact hO
theorem Seg.one {k : IntKind} {w : World} {t : TypeId} (x : Int) : Seg k (w.alloc (.cells #[.int k x] t)) (.slice (some ⟨w.heap.size, 0, none⟩) 1 1) [x] :=
  Seg.of_blk (Blk.new _ _ _) (by simp) (by omega) (by simp)
end Go.Proofs.Kit

