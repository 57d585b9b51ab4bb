/- A law for 'for x := range f' where the iterator leaves memory alone: the loop's body may write and lay what it likes, the loop's own two records apart. No program is named here. -/
import Derived.RangeFuncNested
import Derived.RangeFuncBound
import Derived.RangeFuncCalls
import Derived.RangeFuncLeaves
import Derived.Below
import Derived.Test.YtlhigfphfbmbjaaSeg
namespace Go.Proofs.Kit
open Go.RowKit

/-- Two blocks, D and the next, turn; they are no cells. -/
structure Aside (D : Nat) (X X' : World) : Prop where
  os : X'.os = X.os
  tape : X'.tape = X.tape
  output : X'.output = X.output
  size : X.heap.size ≤ X'.heap.size
  same : ∀ k, k ≠ D → k ≠ D + 1 → k < X.heap.size → X'.heap[k]? = X.heap[k]?
  nc : ∀ k vs t f, (k = D ∨ k = D + 1) → X.heap[k]? ≠ some (.cells vs t f)
theorem Aside.ne {D : Nat} {X X' : World} (h : Aside D X X') {b : Nat} {vs : Array Value} {t : TypeId} {f : Nat × Nat} (hb : X.heap[b]? = some (.cells vs t f)) : b ≠ D ∧ b ≠ D + 1 :=
  ⟨fun e => h.nc b vs t f (.inl e) hb, fun e => h.nc b vs t f (.inr e) hb⟩
theorem Aside.blk {D : Nat} {X X' : World} (h : Aside D X X') {b : Nat} {vs : Array Value} {t : TypeId} (hb : Blk X b vs t) : Blk X' b vs t := (h.same b (h.ne hb).1 (h.ne hb).2 hb.lt).trans hb
theorem Aside.own {D : Nat} {X X' : World} (h : Aside D X X') {k : IntKind} {t : TypeId} {B : Nat} {v : Value} {l : List Int} (ho : Owns k t B X v l) : Owns k t B X' v l := by
  refine ho.same fun g hg => ?_
  rcases ho.2 with ⟨rfl, _⟩ | ⟨g', cap, cur, rfl, _, hb, _⟩
  · simp [Value.ownBlock] at hg
  · simp [Value.ownBlock] at hg
    subst hg
    exact h.same _ (h.ne hb).1 (h.ne hb).2 (Array.getElem?_eq_some_iff.1 hb).1
theorem Aside.below {D B : Nat} {w X X' : World} (h : Aside D X X') (hb : Below B w X) (hB : B ≤ D) (hs : B ≤ w.heap.size) : Below B w X' :=
  hb.trans ⟨h.os, h.tape, h.output, h.size, fun k hk => h.same k (by omega) (by omega) (by have := hb.size; omega)⟩
/-- The two records lie as they lay. -/
def Keep2 (D : Nat) (W W' : World) : Prop := W.heap.size ≤ W'.heap.size ∧ W'.heap[D]? = W.heap[D]? ∧ W'.heap[D + 1]? = W.heap[D + 1]?
theorem Keep2.refl (D : Nat) (W : World) : Keep2 D W W := ⟨Nat.le_refl _, rfl, rfl⟩
theorem Keep2.trans {D : Nat} {X Y Z : World} (h : Keep2 D X Y) (k : Keep2 D Y Z) : Keep2 D X Z := ⟨Nat.le_trans h.1 k.1, k.2.1.trans h.2.1, k.2.2.trans h.2.2⟩
/-- What a block is not. -/
def NC (D : Nat) (W : World) : Prop := D + 1 < W.heap.size ∧ ∀ k vs t f, (k = D ∨ k = D + 1) → W.heap[k]? ≠ some (.cells vs t f)
theorem Keep2.of_but {D r : Nat} {W W' : World} (h : But r W W') (hn : NC D W) (h1 : r ≠ D) (h2 : r ≠ D + 1) : Keep2 D W W' := ⟨h.size, h.same D (by omega) (by have := hn.1; omega), h.same (D + 1) (by omega) hn.1⟩
theorem Keep2.of_grown {D : Nat} {W W' : World} {row : Option Nat} (h : W.grownBy W' row) (hn : NC D W) (h1 : ∀ r, row = some r → r ≠ D ∧ r ≠ D + 1) : Keep2 D W W' :=
  ⟨h.size, h.block D (by have := hn.1; omega) (fun e => (h1 D e.symm).1 rfl), h.block (D + 1) hn.1 (fun e => (h1 (D + 1) e.symm).2 rfl)⟩
theorem Keep2.alloc {D : Nat} {X W : World} (h : Keep2 D X W) (hn : D + 1 < W.heap.size) (o : Obj) : Keep2 D X (W.alloc o) := h.trans ⟨by simp, Below.heap_alloc _ _ _ (by omega), Below.heap_alloc _ _ _ hn⟩
theorem Keep2.setCell {D : Nat} {X W : World} (h : Keep2 D X W) {p : Addr} (h1 : p.block ≠ D) (h2 : p.block ≠ D + 1) (u : Value) : Keep2 D X (W.setCell p u) := h.trans ⟨by simp, Below.heap_setCell _ _ _ _ (by omega), Below.heap_setCell _ _ _ _ (by omega)⟩
theorem NC.alloc {D : Nat} {W : World} (h : NC D W) (o : Obj) : NC D (W.alloc o) := ⟨by have := h.1; simp; omega, fun k vs t f hk e => h.2 k vs t f hk ((Below.heap_alloc W o k (by have := h.1; omega)).symm.trans e)⟩
theorem NC.own {D : Nat} {W : World} (hn : NC D W) {k : IntKind} {t : TypeId} {B : Nat} {v : Value} {l : List Int} (ho : Owns k t B W v l) : ∀ r, v.ownBlock = some r → r ≠ D ∧ r ≠ D + 1 := by
  intro g hg
  rcases ho.2 with ⟨rfl, _⟩ | ⟨g', cap, cur, rfl, _, hb, _⟩
  · simp [Value.ownBlock] at hg
  · simp [Value.ownBlock] at hg
    subst hg
    exact ⟨fun e => hn.2 g' _ _ _ (.inl e) hb, fun e => hn.2 g' _ _ _ (.inr e) hb⟩

theorem NC.blk {D : Nat} {W : World} (hn : NC D W) {b : Nat} {vs : Array Value} {t : TypeId} (hb : Blk W b vs t) : b ≠ D ∧ b ≠ D + 1 := ⟨fun e => hn.2 b _ _ _ (.inl e) hb, fun e => hn.2 b _ _ _ (.inr e) hb⟩
theorem Keep2.of_below {D : Nat} {W W' : World} (h : Below W.heap.size W W') (hn : NC D W) : Keep2 D W W' := ⟨h.size, h.block D (by have := hn.1; omega), h.block (D + 1) hn.1⟩
theorem NC.below {D : Nat} {W W' : World} (h : Below W.heap.size W W') (hn : NC D W) : NC D W' := ⟨Nat.lt_of_lt_of_le hn.1 h.size, fun k vs t f hk e => hn.2 k vs t f hk ((h.block k (by have := hn.1; omega)).symm.trans e)⟩
theorem NC.setCell {D : Nat} {W : World} (h : NC D W) {p : Addr} (h1 : p.block ≠ D) (h2 : p.block ≠ D + 1) (u : Value) : NC D (W.setCell p u) := ⟨by have := h.1; simp; omega, fun k vs t f hk e => h.2 k vs t f hk ((Below.heap_setCell W p u k (by omega)).symm.trans e)⟩
theorem below_put' {B : Nat} (W : World) {l : Nat} (o : Obj) (hl : B ≤ l) : Below B W (W.putObj l o) :=
  ⟨rfl, rfl, rfl, by simp, fun k hk => World.putObj_heap_other (by omega)⟩
/-- WHAT AN ITERATOR PROMISES THAT LEAVES MEMORY ALONE. -/
def SeqS {α : Type} (F : Fence) (n : Nat) (P : Program) (g : Nat) (lb : Array Value) (encs : α → Array Value) (S Sp : List α → Prop) (N : Nat) (w : World) : Prop :=
  ∀ (l : Nat) (J Jx : List α → World → Prop) (W : World), Below w.heap.size w W →
    (∀ pre x W1, J pre W1 → pre.length < N → YieldAt F (n - 1) P l (encs x) W1 fun e W' => (e = .returned (.bool true) ∧ J (pre ++ [x]) W') ∨ (e = .returned (.bool false) ∧ Jx (pre ++ [x]) W')) →
    J [] W →
    CallsIn F n P g (#[.func (.yield l) #[] #[]] ++ lb) W fun e W' => (∃ v, e = .returned v) ∧ ((∃ xs, S xs ∧ J xs W') ∨ (∃ pre, Sp pre ∧ Jx pre W'))

/-- How the body of a round may be left. -/
def bodyS {α : Type} (D : Nat) (I : List α → World → Prop) (Ix : Code → List α → World → Prop) (xs : List α) (W : World) : Exit → Act → World → Prop
  | .normal, _, W' => Keep2 D W W' ∧ I xs W'
  | .ret, _, W' => Keep2 D W W' ∧ Ix .ret xs W'
  | .exit id, _, W' => Keep2 D W W' ∧ Ix (.exit id) xs W'
  | .goto t, _, W' => Keep2 D W W' ∧ Ix (.goto t) xs W'
  | .panic _, _, _ => False
  | .outgrown, _, _ => False

variable {F : Fence} {n : Nat} {P : Program}

theorem rangeS {α : Type} {g : Operand} {ps : Array Tmp} {assign body : Code} {Q : Exit → Act → World → Prop} {a : Act} {w : World}
    (hro : F.round = none) (h1 : 1 ≤ n) {gf : Nat} {lb : Array Value} (hg : a.eval g = .func (.func gf) #[] lb) (hFg : F.fn gf) (eg : ∀ args w, (callFunc gf args).run P w = .ok (.enter gf args) w)
    {encs : α → Array Value} {S Sp : List α → Prop} {N : Nat} {w0 : World} (hseq : SeqS F (n - 1) P gf lb encs S Sp N w0) (hb0 : Below w0.heap.size w0 w) (hps : ∀ x, (encs x).size = ps.size)
    (I : List α → World → Prop) (Ix : Code → List α → World → Prop) (hI : ∀ s X X', I s X → Aside w.heap.size X X' → I s X') (hIx : ∀ c s X X', Ix c s X → Aside w.heap.size X X' → Ix c s X') (h0 : I [] w) (a₁ : α → Act)
    (hassign : ∀ (l : Nat) (x : α) (W : World) (K : Act → World → Prop), K (a₁ x) W →
      assign.wpIn (F.inRound l) (n - 1 - 1) P (Exit.then K (fun _ _ _ => False)) { tmps := (ps.zip (encs x)).foldl (fun t (p, v) => t.setIfInBounds p v) a.tmps, defers := [] } W)
    (hbody : ∀ (l : Nat) (pre : List α) (x : α) (W : World), I pre W → pre.length < N → NC w.heap.size W → body.wpIn (F.inRound l) (n - 1 - 1) P (bodyS w.heap.size I Ix (pre ++ [x]) W) (a₁ x) W)
    (hdone : ∀ (D : Nat) (xs : List α) (W : World), S xs → I xs W → w.heap.size ≤ D → W.heap[D]? = some (.deferred (some [])) → Q .normal { a with defers := { target := .collected D, args := #[] } :: a.defers } W)
    (hstop : ∀ (D : Nat) (c : Code) (pre : List α) (W : World), Sp pre → Ix c pre W → w.heap.size ≤ D → W.heap[D]? = some (.deferred (some [])) → c.wpIn F n P Q { a with defers := { target := .collected D, args := #[] } :: a.defers } W) :
    (Code.rangeFunc g ps assign body).wpIn F n P Q a w := by
  refine wpIn_rangeFunc fun fn hfn => ?_
  rw [hro]
  let rec0 : Loop := { state := .ready, pending := none, fn := fn, tmps := a.tmps, params := ps, assign := assign, body := body, defers := w.heap.size }
  let st : LoopState → Option Code → Obj := fun s p => .loop { rec0 with state := s, pending := p }
  obtain ⟨V, hV⟩ : ∃ V, V = (w.alloc (.deferred (some []))).alloc (st .ready none) := ⟨_, rfl⟩
  have vsz : V.heap.size = w.heap.size + 2 := by rw [hV]; simp
  have vb : Below w.heap.size w V := by rw [hV]; exact ((Below.refl _ w).alloc (Nat.le_refl _) _).alloc (by simp) _
  have va : Aside w.heap.size w V := ⟨vb.os, vb.tape, vb.output, vb.size, fun k _ _ hk => vb.block k hk, fun k vs t f hk h => by have := (Array.getElem?_eq_some_iff.1 h).1; omega⟩
  have vd : V.heap[w.heap.size]? = some (.deferred (some [])) := by
    rw [hV]; exact (Below.heap_alloc _ _ _ (by simp)).trans (World.alloc_heap_new w _)
  have vl : V.heap[w.heap.size + 1]? = some (st .ready none) := by
    rw [hV]; have := World.alloc_heap_new (w.alloc (.deferred (some []))) (st .ready none); rwa [World.size_alloc] at this
  -- a record turns
  have turn : ∀ (X : World) (s : LoopState) (p : Option Code) (o : Obj), X.heap[w.heap.size + 1]? = some (st s p) → X.heap[w.heap.size]? = some (.deferred (some [])) → Aside w.heap.size X (X.putObj (w.heap.size + 1) o) := fun X s p o hl hd =>
    ⟨rfl, rfl, rfl, by simp, fun k _ h2 _ => World.putObj_heap_other (by omega), fun k vs t f hk h => by
      rcases hk with rfl | rfl
      · rw [hd] at h; cases h
      · rw [hl] at h; cases h⟩
  let J : List α → World → Prop := fun pre X => I pre X ∧ X.heap[w.heap.size + 1]? = some (st .ready none) ∧ X.heap[w.heap.size]? = some (.deferred (some []))
  let Jx : List α → World → Prop := fun pre X => ∃ c, Ix c pre X ∧ X.heap[w.heap.size + 1]? = some (st .done (some c)) ∧ X.heap[w.heap.size]? = some (.deferred (some []))
  refine ⟨w.heap.size + 1, [{ target := .collected w.heap.size, args := #[] }], V, { target := .fn (.func gf) lb, args := #[.func (.yield (w.heap.size + 1)) #[] #[]] }, V, gf,
    #[.func (.yield (w.heap.size + 1)) #[] #[]] ++ lb, V, ?_, ?_, ?_, ?_, fun _ => h1, ?_⟩
  · rw [hV]; exact run_enterLoop_outer _ _ _ _ _
  · simp only [resolve, hg]
    simp [go_sem]
  · intro f' hf'; simp [Target.leads] at hf'; subst hf'; exact hFg
  · simp [invoke, go_sem, eg]
  refine (hseq (w.heap.size + 1) J Jx V (hb0.trans (vb.mono hb0.size)) ?_ ⟨hI _ _ _ h0 va, vl, vd⟩).mono ?_
  · -- one round
    rintro pre x X ⟨hi, hl, hd⟩ hlen
    have hlt : w.heap.size + 1 < X.heap.size := (Array.getElem?_eq_some_iff.1 hl).1
    have hy := run_yield (P := P) (args := encs x) hl (hps x)
    refine ⟨fn, _, assign, body, hy, roundIn_of_wpIn hfn (hassign _ x X _ ⟨_, run_beginRound hl rfl, ?_⟩)⟩
    obtain ⟨Y, hY⟩ : ∃ Y, Y = X.putObj (w.heap.size + 1) (st .busy none) := ⟨_, rfl⟩
    have yl : Y.heap[w.heap.size + 1]? = some (st .busy none) := by rw [hY]; exact World.putObj_heap_same hlt
    have yd : Y.heap[w.heap.size]? = some (.deferred (some [])) := by rw [hY]; exact (World.putObj_heap_other (by omega)).trans hd
    have yi : I pre Y := by rw [hY]; exact hI _ _ _ hi (turn X _ _ _ hl hd)
    have ysz : Y.heap.size = X.heap.size := by rw [hY]; simp
    have yn : NC w.heap.size Y := ⟨by omega, fun k vs t f hk h => by
      rcases hk with rfl | rfl
      · rw [yd] at h; cases h
      · rw [yl] at h; cases h⟩
    show Code.wpIn (F.inRound (w.heap.size + 1)) (n - 1 - 1) P body _ (a₁ x) (X.putObj (w.heap.size + 1) (st .busy none))
    rw [← hY]
    have close : ∀ (jump : Option Code) (Z : World), Keep2 w.heap.size Y Z →
        (Instr.endRound (w.heap.size + 1) jump).run P Z = .ok (.bool jump.isNone) (Z.putObj (w.heap.size + 1) (st (if jump.isNone then .ready else .done) jump)) ∧
        (Z.putObj (w.heap.size + 1) (st (if jump.isNone then .ready else .done) jump)).heap[w.heap.size + 1]? = some (st (if jump.isNone then .ready else .done) jump) ∧
        (Z.putObj (w.heap.size + 1) (st (if jump.isNone then .ready else .done) jump)).heap[w.heap.size]? = some (.deferred (some [])) ∧
        Aside w.heap.size Z (Z.putObj (w.heap.size + 1) (st (if jump.isNone then .ready else .done) jump)) := fun jump Z hz => by
      have zl : Z.heap[w.heap.size + 1]? = some (st .busy none) := hz.2.2.trans yl
      have zd : Z.heap[w.heap.size]? = some (.deferred (some [])) := hz.2.1.trans yd
      exact ⟨run_endRound (P := P) (r := { rec0 with state := .busy, pending := none }) jump zl, World.putObj_heap_same (by have := hz.1; omega), (World.putObj_heap_other (by omega)).trans zd, turn Z _ _ _ zl zd⟩
    refine wpIn_mono (hbody _ pre x Y yi hlen yn) ?_
    rintro e a3 Z hp
    cases e with
    | normal =>
      obtain ⟨hz, hi3⟩ := hp
      obtain ⟨c1, c2, c3, c4⟩ := close none Z hz
      exact ⟨_, _, c1, .inl ⟨rfl, hI _ _ _ hi3 c4, c2, c3⟩⟩
    | ret =>
      obtain ⟨hz, hi3⟩ := hp
      obtain ⟨c1, c2, c3, c4⟩ := close (some .ret) Z hz
      exact ⟨_, _, c1, .inr ⟨rfl, _, hIx _ _ _ _ hi3 c4, c2, c3⟩⟩
    | exit id =>
      obtain ⟨hz, hi3⟩ := hp
      obtain ⟨c1, c2, c3, c4⟩ := close (some (.exit id)) Z hz
      exact ⟨_, _, c1, .inr ⟨rfl, _, hIx _ _ _ _ hi3 c4, c2, c3⟩⟩
    | goto t =>
      obtain ⟨hz, hi3⟩ := hp
      obtain ⟨c1, c2, c3, c4⟩ := close (some (.goto t)) Z hz
      exact ⟨_, _, c1, .inr ⟨rfl, _, hIx _ _ _ _ hi3 c4, c2, c3⟩⟩
    | panic ch => exact hp.elim
    | outgrown => exact hp.elim
  · -- behind the iterator
    rintro e X ⟨⟨v, rfl⟩, ⟨xs, hS, hi, hl, hd⟩ | ⟨pre, hSp, c, hi, hl, hd⟩⟩
    · exact ⟨none, _, run_endLoop (P := P) hl (by simp), hdone _ xs _ hS (hI _ _ _ hi (turn X _ _ _ hl hd)) (Nat.le_refl _) ((World.putObj_heap_other (by omega)).trans hd)⟩
    · exact ⟨some c, _, run_endLoop (P := P) hl (by simp), hstop _ c pre _ hSp (hIx c _ _ _ hi (turn X _ _ _ hl hd)) (Nat.le_refl _) ((World.putObj_heap_other (by omega)).trans hd)⟩
end Go.Proofs.Kit

