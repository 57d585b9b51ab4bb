/- TablePuts: what is known, and how memory lies, round by round. -/
import Derived.Test.YtfnlegnieilcbaaJ25
namespace Go.Proofs.Kit
open Go.RowKit
/-- What is known after k texts. -/
structure PQ (T tx : List ByteArray) (k : Nat) (Tk : List ByteArray) (Sk ns : List Int) : Prop where
  good : Good hsh Tk Sk
  sl : Sk.length ≤ 4096
  tl : Tk.length ≤ 40 + k
  size : ∀ s ∈ Tk, s.size ≤ 9223372036854775807
  all : allL T (cuts 12 tx k) = some (Tk, ns)
  nl : ns.length ≤ 12
theorem PQ.step {T tx Tk T' : List ByteArray} {k p : Nat} {Sk S' ns : List Int} {s : ByteArray} (h : PQ T tx k Tk Sk ns) (hs : s.size ≤ 60) (hc : cuts 12 tx (k + 1) = cuts 12 tx k ++ [s]) (hp : PutT Tk s T' p) (hg : Good hsh T' S') (hl : S'.length ≤ 4096) : PQ T tx (k + 1) T' S' (ns ++ [(p : Int)]) := by
  have e : allL T (cuts 12 tx (k + 1)) = some (T', ns ++ [(p : Int)]) := by
    rw [hc, allL_snoc, h.all, stepL_some]
    rcases hp with ⟨h1, rfl, rfl⟩ | ⟨h1, h2, rfl, rfl⟩
    · rw [if_pos h1]
    · rw [if_neg h1, if_neg h2]
  refine ⟨hg, hl, by have := hp.len; have := h.tl; omega, hp.sizes h.size (by omega), e, ?_⟩
  rw [allL_len e]
  exact cuts_len _ _ _
/-- How memory lies after some texts: the table's record and rows, all texts that it has, those that were put, and their numbers. -/
structure PW (tt ts ti : TypeId) (B b : Nat) (w : World) (vT vS vA vL vN : Value) (Tk Lk : List ByteArray) (Sk ns : List Int) (W : World) : Prop where
  kb : Blk W b #[vT, vS] tt
  oT : Ow ts B W vT (Tk.map Value.string)
  oS : Ow ti B W vS (Sk.map (Value.int .i64))
  oA : Ow ts B W vA (Tk.map Value.string)
  oL : Ow ts B W vL (Lk.map Value.string)
  oN : Ow ti B W vN (ns.map (Value.int .i64))
  dT : ∀ g, vL.ownBlock = some g → vT.ownBlock ≠ some g
  dA : ∀ g, vL.ownBlock = some g → vA.ownBlock ≠ some g
  low : Below B w W
section
variable {tt ts ti : TypeId} {B b : Nat} {w W W' : World} {vT vS vA vL vN v' : Value} {Tk Lk L' : List ByteArray} {Sk ns : List Int}
theorem PW.later (h : PW tt ts ti B b w vT vS vA vL vN Tk Lk Sk ns W) (g : Below W.heap.size W W') (hB : B ≤ W.heap.size) : PW tt ts ti B b w vT vS vA vL vN Tk Lk Sk ns W' :=
  ⟨h.kb.later g, h.oT.later g, h.oS.later g, h.oA.later g, h.oL.later g, h.oN.later g, h.dT, h.dA, h.low.trans (g.mono hB)⟩
theorem PW.append (h : PW tt ts ti B b w vT vS vA vL vN Tk Lk Sk ns W) (hO : Ow ts B W' v' (L'.map Value.string)) (hg : W.grownBy W' vL.ownBlock) (hw : v'.ownBlock = vL.ownBlock ∨ v'.ownBlock = some W.heap.size) (h1 : ts ≠ tt) (h2 : ts ≠ ti) (hB : B ≤ W.heap.size) : PW tt ts ti B b w vT vS vA v' vN Tk L' Sk ns W' := by
  refine ⟨h.kb.grown hg (h.oL.ne_blk h.kb h1), h.oT.same fun g hg' => hg.block g (h.oT.lt g hg').2 (fun e => h.dT g e.symm hg'), h.oS.same fun g hg' => hg.block g (h.oS.lt g hg').2 (fun e => h.oL.ne_ow h.oS h2 g e.symm hg'), h.oA.same fun g hg' => hg.block g (h.oA.lt g hg').2 (fun e => h.dA g e.symm hg'), hO, h.oN.same fun g hg' => hg.block g (h.oN.lt g hg').2 (fun e => h.oL.ne_ow h.oN h2 g e.symm hg'), ?_, ?_, h.low.grown hg hB (fun g hg => (h.oL.lt g hg).1)⟩
  · intro g e1 e2
    rcases hw with hw | hw
    · exact h.dT g (hw ▸ e1) e2
    · rw [hw] at e1; injection e1 with e1; have := (h.oT.lt g e2).2; omega
  · intro g e1 e2
    rcases hw with hw | hw
    · exact h.dA g (hw ▸ e1) e2
    · rw [hw] at e1; injection e1 with e1; have := (h.oA.lt g e2).2; omega
end
theorem PW.cells {tt ts ti : TypeId} {B b : Nat} {w W : World} {vT vS vA vL vN : Value} {Tk Lk : List ByteArray} {Sk ns : List Int} (h : PW tt ts ti B b w vT vS vA vL vN Tk Lk Sk ns W) : W.cell? ⟨b, 0, none⟩ = some vT ∧ W.cell? ⟨b, 1, none⟩ = some vS := ⟨h.kb.cell 0, h.kb.cell 1⟩
/-- What lies once a text is put. -/
structure RW (tt ts ti : TypeId) (Bp B b13 : Nat) (Wp : World) (vT' vS' vA' : Value) (T' : List ByteArray) (S' : List Int) (W : World) : Prop where
  kg : Blk W b13 #[vT', vS'] tt
  oa : Ow ts Bp W vT' (T'.map Value.string)
  ob : Ow ti Bp W vS' (S'.map (Value.int .i64))
  oA : Ow ts B W vA' (T'.map Value.string)
  low : Below Bp Wp W
  size : Bp ≤ W.heap.size
section
variable {tt ts ti : TypeId} {Bp B b13 : Nat} {Wp W W' : World} {vT' vS' vA' : Value} {T' : List ByteArray} {S' : List Int}
theorem RW.later (h : RW tt ts ti Bp B b13 Wp vT' vS' vA' T' S' W) (g : Below W.heap.size W W') : RW tt ts ti Bp B b13 Wp vT' vS' vA' T' S' W' :=
  ⟨h.kg.later g, h.oa.later g, h.ob.later g, h.oA.later g, h.low.trans (g.mono h.size), Nat.le_trans h.size g.size⟩
theorem RW.cells (h : RW tt ts ti Bp B b13 Wp vT' vS' vA' T' S' W) : W.cell? ⟨b13, 0, none⟩ = some vT' ∧ W.cell? ⟨b13, 1, none⟩ = some vS' := ⟨h.kg.cell 0, h.kg.cell 1⟩
end
/-- How memory lies while what was told is spoilt. -/
structure ZW (tt ts ti : TypeId) (Bp Bn B b13 b19 : Nat) (Wp : World) (vT' vS' vU vV vA' : Value) (T' : List ByteArray) (S' : List Int) (m : Nat) (W : World) : Prop where
  kg : Blk W b13 #[vT', vS'] tt
  oG : ∃ Z : List Int, Z.length = m ∧ Ow ti Bp W vS' (Z.map (Value.int .i64))
  kn : Blk W b19 #[vU, vV] tt
  oU : Ow ts Bn W vU (T'.map Value.string)
  oV : Ow ti Bn W vV (S'.map (Value.int .i64))
  oA : Ow ts B W vA' (T'.map Value.string)
  hBn : ∀ g, vS'.ownBlock = some g → g < Bn
  low : Below Bp Wp W
section
variable {tt ts ti : TypeId} {Bp Bn B b13 b19 : Nat} {Wp W W' : World} {vT' vS' vU vV vA' : Value} {T' : List ByteArray} {S' : List Int} {m c p : Nat} {o : Option Addr}
theorem ZW.later (h : ZW tt ts ti Bp Bn B b13 b19 Wp vT' vS' vU vV vA' T' S' m W) (g : Below W.heap.size W W') (hB : Bp ≤ W.heap.size) : ZW tt ts ti Bp Bn B b13 b19 Wp vT' vS' vU vV vA' T' S' m W' := by
  obtain ⟨Z, h1, h2⟩ := h.oG
  exact ⟨h.kg.later g, ⟨Z, h1, h2.later g⟩, h.kn.later g, h.oU.later g, h.oV.later g, h.oA.later g, h.hBn, h.low.trans (g.mono hB)⟩
theorem ZW.cells (h : ZW tt ts ti Bp Bn B b13 b19 Wp vT' vS' vU vV vA' T' S' m W) : W.cell? ⟨b13, 0, none⟩ = some vT' ∧ W.cell? ⟨b13, 1, none⟩ = some vS' ∧ W.cell? ⟨b19, 0, none⟩ = some vU ∧ W.cell? ⟨b19, 1, none⟩ = some vV := ⟨h.kg.cell 0, h.kg.cell 1, h.kn.cell 0, h.kn.cell 1⟩
theorem ZW.store (h : ZW tt ts ti Bp Bn B b13 b19 Wp vT' (.slice o m c) vU vV vA' T' S' m W) (hp : p < m) (h1 : ti ≠ tt) (h2 : ti ≠ ts) :
    ∃ g, o = some ⟨g, 0, none⟩ ∧ g < W.heap.size ∧ (∃ y, W.cell? ⟨g, p, none⟩ = some (.int .i64 y)) ∧ W.frozen? ⟨g, p, none⟩ = false ∧ ∀ y : Int, ZW tt ts ti Bp Bn B b13 b19 Wp vT' (.slice o m c) vU vV vA' T' S' m (W.setCell ⟨g, p, none⟩ (.int .i64 y)) := by
  obtain ⟨Z, rfl, hZ⟩ := h.oG
  obtain ⟨g, cap, e, h3, h4, h5, h6, h7, h8, _⟩ := hZ.set (i := p) (by simpa using hp) (.int .i64 0)
  injection e with e1 e2 e3
  subst e1 e3
  rw [List.getElem_map] at h7
  refine ⟨g, rfl, h6, ⟨_, h7⟩, h8, fun y => ?_⟩
  obtain ⟨g', cap', e', _, _, _, _, _, _, h9⟩ := hZ.set (i := p) (by simpa using hp) (.int .i64 y)
  injection e' with e1 _ _
  injection e1 with e1
  injection e1 with e1 _ _
  subst e1
  have hgn : g < Bn := h.hBn g rfl
  refine ⟨h.kg.other (fun e => hZ.ne_blk h.kg h1 (by rw [e]; rfl)) _, ⟨Z.set p y, by simp, by rw [List.map_set]; exact h9⟩, h.kn.other (fun e => hZ.ne_blk h.kn h1 (by rw [e]; rfl)) _,
    h.oU.same fun g' hg' => Below.heap_setCell _ _ _ _ (by rintro rfl; have := (h.oU.lt _ hg').1; omega),
    h.oV.same fun g' hg' => Below.heap_setCell _ _ _ _ (by rintro rfl; have := (h.oV.lt _ hg').1; omega),
    h.oA.same fun g' hg' => Below.heap_setCell _ _ _ _ (by rintro rfl; exact hZ.ne_ow h.oA h2 _ rfl hg'), h.hBn, h.low.setCell h5 _⟩
theorem PW.mid {b : Nat} {w : World} {vT vS vA vL vN : Value} {Tk Lk : List ByteArray} {Sk ns : List Int} {Wj W1 : World} (hg : W1.grownBy W' vN.ownBlock) (hP : PW tt ts ti B b w vT vS vA vL vN Tk Lk Sk ns Wj) (hZ : ZW tt ts ti Bp Bn B b13 b19 Wp vT' vS' vU vV vA' T' S' m Wj) (hW1 : Below Wj.heap.size Wj W1) (h1 : ti ≠ tt) :
    Blk W' b #[vT, vS] tt ∧ Blk W' b19 #[vU, vV] tt :=
  ⟨(hP.kb.later hW1).grown hg ((hP.oN.later hW1).ne_blk (hP.kb.later hW1) h1), (hZ.kn.later hW1).grown hg ((hP.oN.later hW1).ne_blk (hZ.kn.later hW1) h1)⟩
theorem PW.next {b : Nat} {w : World} {vT vS vA vL vN v' : Value} {Tk Lk : List ByteArray} {Sk ns ns' : List Int} {Wj W1 : World} (hg : W1.grownBy W' vN.ownBlock) (hO : Ow ti B W' v' (ns'.map (Value.int .i64))) (hP : PW tt ts ti B b w vT vS vA vL vN Tk Lk Sk ns Wj) (hZ : ZW tt ts ti Bp Bn B b13 b19 Wp vT' vS' vU vV vA' T' S' m Wj) (hW1 : Below Wj.heap.size Wj W1)
    (h1 : ti ≠ tt) (h2 : ts ≠ tt) (h3 : ti ≠ ts) (hAF : vA' = vA ∨ ∀ g, vA'.ownBlock = some g → Bp ≤ g) (hL : ∀ g, vL.ownBlock = some g → g < Bp) (hN : ∀ g, vN.ownBlock = some g → g < Bp) (hB : Bp ≤ Bn) (hBb : B ≤ b) (hBB : B ≤ Bn) :
    PW tt ts ti B b w vU vV vA' vL v' T' Lk S' ns' ((W'.setCell ⟨b, 0, none⟩ vU).setCell ⟨b, 1, none⟩ vV) := by
  obtain ⟨kb3, -⟩ := PW.mid hg hP hZ hW1 h1
  have hN1 := hP.oN.later hW1
  have toS : ∀ {B' : Nat} {x : Value} {l : List Value}, Ow ts B' Wj x l → Ow ts B' W' x l := fun ho => (ho.later hW1).same fun g hg' => hg.block g ((ho.later hW1).lt g hg').2 (fun e => hN1.ne_ow (ho.later hW1) h3 g e.symm hg')
  have far : ∀ {t : TypeId} {B' : Nat} {x : Value} {l : List Value}, t ≠ tt → Ow t B' W' x l → Ow t B' ((W'.setCell ⟨b, 0, none⟩ vU).setCell ⟨b, 1, none⟩ vV) x l := fun ht ho =>
    ho.same fun g hg => (Below.heap_setCell _ _ _ _ (by rintro rfl; exact ho.ne_blk kb3 ht hg)).trans (Below.heap_setCell _ _ _ _ (by rintro rfl; exact ho.ne_blk kb3 ht hg))
  have oV3 : Ow ti Bn W' vV (S'.map (Value.int .i64)) := (hZ.oV.later hW1).same fun g hg' => hg.block g ((hZ.oV.later hW1).lt g hg').2 (fun e => by
    have h4 := hN g e.symm
    have h5 := (hZ.oV.lt g hg').1
    omega)
  have hW1s : B ≤ W1.heap.size := by
    have := hW1.size
    have := hP.kb.lt
    omega
  refine ⟨?_, far h2 ((toS hZ.oU).mono hBB), far h1 (oV3.mono hBB), far h2 (toS hZ.oA), far h2 (toS hP.oL), far h1 hO, ?_, ?_, ?_⟩
  · have := (kb3.set 0 vU).set 1 vV
    simpa using this
  · intro g e1 e2
    have := hL g e1
    have := (hZ.oU.lt g e2).1
    omega
  · intro g e1 e2
    rcases hAF with h | h
    · rw [h] at e2; exact hP.dA g e1 e2
    · have := h g e2
      have := hL g e1
      omega
  · exact (((hP.low.trans (hW1.mono (by have := hP.kb.lt; omega))).grown hg hW1s (fun g hg => (hP.oN.lt g hg).1)).setCell hBb _).setCell hBb _
end
end Go.Proofs.Kit
