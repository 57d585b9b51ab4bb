/- own of stage 11's laws: tiers in memory of the call's own; tiers.copied. -/
import Derived.Test.YtlhigfphfbmbjaaW2
import Derived.Deep.RegionHeld3
import Derived.Lib.MinMax
namespace Go.Proofs.Kit
open Go.RowKit
theorem add_pos (a : Addr) (m j : Nat) (hj : j ≠ 0) : a.add (m + j) = ⟨(a.add m).block, (a.add m).off + j, none⟩ := by
  unfold Addr.add
  by_cases hm : m = 0
  · subst hm
    simp [hj]
  · simp [hm, Nat.add_assoc]
def few16 (t : Tr) : Tr := (t.1.take 16, t.2.take 16)
def ownL (L : List Tr) : List Tr := (L.take 26).map few16
theorem ownL_len (L : List Tr) : (ownL L).length ≤ 26 := by simp [ownL]; omega
theorem ownL_next {L : List Tr} {k : Nat} (hk : k < L.length) (h : k < 26) : ownL (L.take (k + 1)) = ownL (L.take k) ++ [few16 L[k]] := by
  rw [List.take_succ_eq_append_getElem hk, ownL, ownL, List.take_append, List.map_append]
  have h1 : (L.take k).length ≤ k := List.length_take_le _ _
  rw [List.take_of_length_le (l := [_]) (by simp; omega)]
  rfl
theorem ownL_stay {L : List Tr} {k : Nat} (h : ¬ k < 26) : ownL (L.take (k + 1)) = ownL (L.take k) := by
  simp only [ownL, List.take_take]
  rw [Nat.min_eq_left (by omega), Nat.min_eq_left (by omega)]
/-- append of a slice of elements, as a step of a region that draws its order. -/
theorem step_append_segE {α : Type} {E : Enc α} {P : Program} {ops : Array Oper} {w : World} {o : Oper} {a : Act} {K : Act → World → Prop} {Q : Exit → Act → World → Prop} {X : Prop} (hgd : o.guard = none) (s x : Operand) (t : TypeId)
    (ho : o.op = .call { callee := .builtin .append, args := #[s, x], argTypes := #[t, t] })
    (base : Nat) (e : TypeId) (i : TypeInfo) (z : Value) (bytes : Nat) (ht : P.underlying t = some (.slice e)) (hi : P.info? e = some i) (hz : i.zero = some z) (hsize : i.size = E.k) (hby : i.bytes = bytes) (hzs : z.cells.size = E.k)
    (v : Value) (l : List α) (hs : a.eval s = v) (hown : OwnE E e base w v l) (vx : Value) (m : List α) (hx : a.eval x = vx) (hm : SegE E w vx m) (hm0 : m ≠ [])
    (h63 : (l.length + m.length) * E.k ≤ 9223372036854775807) (hbytes : (l.length + m.length) * bytes ≤ 140737488355328) (hbase : base ≤ w.heap.size)
    (h : ∀ v' w', OwnE E e base w' v' (l ++ m) → Below base w w' → w.grownBy w' v.ownBlock → K (a.put o.dst v') w') : if Region.wanted o (yielded ops a.tmps) = true then Oper.wp P o a w K Q else X := by
  rw [if_pos (by simp [Region.wanted, hgd])]
  have hlen := len_mul E (l.length + m.length)
  rcases hm.2 with ⟨_, rfl⟩ | ⟨b, f, c, rfl, h2, h3, h4, h5⟩
  · exact (hm0 rfl).elim
  · subst hby
    have hnews : ∀ j u, (flatE E m)[j]? = some u → w.cell? ((⟨b, f, none⟩ : Addr).add j) = some u := by
      intro j u hj
      have hjn : j < m.length * E.k := by have := (List.getElem?_eq_some_iff.1 hj).1; rwa [flatE_length] at this
      have hk : j / E.k < m.length := Nat.div_lt_of_lt_mul (by rw [Nat.mul_comm]; exact hjn)
      have hr : j % E.k < E.k := Nat.mod_lt _ E.pos
      have hq : j / E.k * E.k + j % E.k = j := by rw [Nat.mul_comm]; exact Nat.div_add_mod _ _
      have hf := flatE_get (E := E) m _ _ hk hr
      rw [hq, hj] at hf
      rw [Addr.add_lit]
      have := h5 _ hk _ u hf.symm
      rw [show f + j / E.k * E.k + j % E.k = f + j by omega] at this
      exact this
    obtain ⟨v', w', hr, hO, hG, _⟩ := run_append_own (P := P) w base t o.type e i z E.k i.bytes ht hi hz hsize rfl hzs E.pos v _ _ hown.2 ⟨b, f, none⟩ m.length c (flatE E m) (flatE_length m) hnews (flatE_one m) (by unfold maxLen; omega) hbytes hbase
    unfold Oper.wp execOp
    simp only [ho, resolve, invoke, builtin, Sem.run_bind, Sem.run_pure, Result.andThen_ok, List.map_toArray, List.map_cons, List.map_nil, hs, hx, hr]
    refine h v' w' ⟨by rw [List.length_append]; exact h63, ?_⟩ ((Below.refl _ _).grown hG hbase (fun g hg => (hown.lt g hg).1)) hG
    rw [List.length_append, flatE_append]
    exact hO
/-- A row of tiers under work, whose own rows are told beside it. -/
structure OT (tp tt : TypeId) (B : Nat) (w : World) (v : Value) (l : List Ti) (L : List Tr) : Prop where
  own : OwnE tiE tt B w v l
  len : l.length = L.length
  each : ∀ i (h : i < l.length) (h' : i < L.length), OwnQ tp B w l[i] L[i]
theorem OT.later {tp tt : TypeId} {B : Nat} {w w' : World} {v : Value} {l : List Ti} {L : List Tr} (h : OT tp tt B w v l L) (hb : Below w.heap.size w w') : OT tp tt B w' v l L := ⟨h.own.later hb, h.len, fun i a b => (h.each i a b).later hb⟩
theorem OT.drew {tp tt : TypeId} {B : Nat} {w : World} {v : Value} {l : List Ti} {L : List Tr} (h : OT tp tt B w v l L) : OT tp tt B w.drew v l L := h.later (Below.refl _ _).drew
theorem OwnT.open {tp tt : TypeId} {B : Nat} {w : World} {v : Value} {L : List Tr} (h : OwnT tp tt B w v L) : ∃ l, OT tp tt B w v l L := by
  obtain ⟨l, h1, h2, h3⟩ := h
  exact ⟨l, h1, h2, h3⟩
theorem OT.t {tp tt : TypeId} {B : Nat} {w : World} {v : Value} {l : List Ti} {L : List Tr} (h : OT tp tt B w v l L) : OwnT tp tt B w v L := ⟨l, h.own, h.len, h.each⟩
/-- What lies while one tier is laid anew. -/
theorem OwnP.any {t : TypeId} {B : Nat} {w : World} {v : Value} {l : List Pr} (h : OwnP t B w v l) : ∃ o n c, v = .slice o n c := by
  obtain ⟨o, c, e⟩ := h.shape
  exact ⟨o, _, c, e⟩
structure TW (tt : TypeId) (w : World) (b : Nat) (v1 v2 : Value) (W : World) : Prop where
  k : Blk W b #[v1, v2] tt
  low : Below w.heap.size w W
theorem TW.later {tt : TypeId} {w W W' : World} {b : Nat} {v1 v2 : Value} (h : TW tt w b v1 v2 W) (hb : Below W.heap.size W W') : TW tt w b v1 v2 W' := ⟨h.k.later hb, below_later h.low hb⟩
theorem TW.drew {tt : TypeId} {w W : World} {b : Nat} {v1 v2 : Value} (h : TW tt w b v1 v2 W) : TW tt w b v1 v2 W.drew := h.later (Below.refl _ _).drew
end Go.Proofs.Kit
namespace Go.Proofs.Ytlhigfphfbmbjaa
open Go.RowKit Go.Proofs.Kit
end Go.Proofs.Ytlhigfphfbmbjaa

