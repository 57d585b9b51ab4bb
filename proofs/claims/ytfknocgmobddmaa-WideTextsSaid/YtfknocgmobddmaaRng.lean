/- A law for 'for x := range f' where the iterator writes blocks of cells of its own: the loop's body writes what lay ahead of the loop alone, the iterator what it has laid itself. No program is named here. -/
import Derived.RangeFuncNested
import Derived.RangeFuncBound
import Derived.RangeFuncCalls
import Derived.RangeFuncLeaves
import Derived.Below
namespace Go.Proofs.Kit
open Go.RowKit

/-- What lies from block B on lies as it lay. -/
structure Above (B : Nat) (W W' : World) : Prop where
  size : W.heap.size ≤ W'.heap.size
  same : ∀ k, B ≤ k → k < W.heap.size → W'.heap[k]? = W.heap[k]?
theorem Above.refl (B : Nat) (W : World) : Above B W W := ⟨Nat.le_refl _, fun _ _ _ => rfl⟩
theorem Above.trans {B : Nat} {X Y Z : World} (h : Above B X Y) (k : Above B Y Z) : Above B X Z :=
  ⟨Nat.le_trans h.size k.size, fun i hB hi => (k.same i hB (Nat.lt_of_lt_of_le hi h.size)).trans (h.same i hB hi)⟩
theorem Above.mono {B B' : Nat} {W W' : World} (h : Above B W W') (hB : B ≤ B') : Above B' W W' := ⟨h.size, fun k hk => h.same k (Nat.le_trans hB hk)⟩
theorem Above.alloc {B : Nat} {X W : World} (h : Above B X W) (o : Obj) : Above B X (W.alloc o) :=
  h.trans ⟨by simp, fun k _ hk => Below.heap_alloc _ _ _ hk⟩
theorem Above.setCell {B : Nat} {X W : World} (h : Above B X W) {p : Addr} (hp : p.block < B) (u : Value) : Above B X (W.setCell p u) :=
  h.trans ⟨by simp, fun k hB _ => Below.heap_setCell _ _ _ _ (by omega)⟩
theorem Above.drew {B : Nat} {X W : World} (h : Above B X W) : Above B X W.drew := ⟨h.size, h.same⟩
theorem Above.of_below {B : Nat} {X W W' : World} (h : Above B X W) (hb : Below W.heap.size W W') : Above B X W' :=
  h.trans ⟨hb.size, fun k _ hk => hb.block k hk⟩
theorem above_put {B : Nat} (W : World) {l : Nat} (o : Obj) (hl : l < B) : Above B W (W.putObj l o) :=
  ⟨by simp, fun k hB _ => World.putObj_heap_other (by omega)⟩
theorem below_put {B : Nat} (W : World) {l : Nat} (o : Obj) (hl : B ≤ l) : Below B W (W.putObj l o) :=
  ⟨rfl, rfl, rfl, by simp, fun k hk => World.putObj_heap_other (by omega)⟩

/-- It hangs on what lies below block B alone. -/
def Low {β : Type} (B : Nat) (J : β → World → Prop) : Prop := ∀ s X X', J s X → Below B X X' → J s X'

/-- WHAT AN ITERATOR PROMISES: whatever the rounds keep, it calls yield one by one with the values of a list that S allows (or, where a round says that it is enough, with the first ones of such: Sp), and changes nothing that lay ahead of its call. -/
def SeqB {α : Type} (F : Fence) (n : Nat) (P : Program) (g : Nat) (lb : Array Value) (encs : α → Array Value) (S Sp : List α → Prop) (N : Nat) (w : World) : Prop :=
  ∀ (l : Nat) (J Jx : List α → World → Prop) (W : World), Below w.heap.size w W → Low W.heap.size J → Low W.heap.size Jx →
    (∀ pre x W1, J pre W1 → pre.length < N → W.heap.size ≤ W1.heap.size → YieldAt F (n - 1) P l (encs x) W1 fun e W' =>
      (e = .returned (.bool true) ∧ J (pre ++ [x]) W' ∧ Above W.heap.size W1 W') ∨ (e = .returned (.bool false) ∧ Jx (pre ++ [x]) W' ∧ Above W.heap.size W1 W')) →
    J [] W →
    CallsIn F n P g (#[.func (.yield l) #[] #[]] ++ lb) W fun e W' => (∃ v, e = .returned v) ∧ ((∃ xs, S xs ∧ J xs W') ∨ (∃ pre, Sp pre ∧ Jx pre W'))

/-- How the body of a round may be left. -/
def bodyB {α : Type} (B : Nat) (I : List α → World → Prop) (Ix : Code → List α → World → Prop) (xs : List α) (W : World) : Exit → Act → World → Prop
  | .normal, _, W' => Above B W W' ∧ I xs W'
  | .ret, _, W' => Above B W W' ∧ Ix .ret xs W'
  | .exit id, _, W' => Above B W W' ∧ Ix (.exit id) xs W'
  | .goto t, _, W' => Above B W W' ∧ Ix (.goto t) xs W'
  | .panic _, _, _ => False
  | .outgrown, _, _ => False

variable {F : Fence} {n : Nat} {P : Program}

theorem rangeB {α : Type} {g : Operand} {ps : Array Tmp} {assign body : Code} {Q : Exit → Act → World → Prop} {a : Act} {w : World}
    (hro : F.round = none) (h1 : 1 ≤ n) {gf : Nat} {lb : Array Value} (hg : a.eval g = .func (.func gf) #[] lb) (hFg : F.fn gf) (eg : ∀ args w, (callFunc gf args).run P w = .ok (.enter gf args) w)
    {encs : α → Array Value} {S Sp : List α → Prop} {N : Nat} {w0 : World} (hseq : SeqB F (n - 1) P gf lb encs S Sp N w0) (hb0 : Below w0.heap.size w0 w) (hps : ∀ x, (encs x).size = ps.size)
    (I : List α → World → Prop) (Ix : Code → List α → World → Prop) (hI : Low w.heap.size I) (hIx : ∀ c, Low w.heap.size (Ix c)) (h0 : I [] w) (a₁ : α → Act)
    (hassign : ∀ (l : Nat) (x : α) (W : World) (K : Act → World → Prop), K (a₁ x) W →
      assign.wpIn (F.inRound l) (n - 1 - 1) P (Exit.then K (fun _ _ _ => False)) { tmps := (ps.zip (encs x)).foldl (fun t (p, v) => t.setIfInBounds p v) a.tmps, defers := [] } W)
    (hbody : ∀ (l : Nat) (pre : List α) (x : α) (W : World), I pre W → pre.length < N → w.heap.size < W.heap.size → body.wpIn (F.inRound l) (n - 1 - 1) P (bodyB w.heap.size I Ix (pre ++ [x]) W) (a₁ x) W)
    (hdone : ∀ (D : Nat) (xs : List α) (W : World), S xs → I xs W → w.heap.size ≤ D → W.heap[D]? = some (.deferred (some [])) → Q .normal { a with defers := { target := .collected D, args := #[] } :: a.defers } W)
    (hstop : ∀ (D : Nat) (c : Code) (pre : List α) (W : World), Sp pre → Ix c pre W → w.heap.size ≤ D → W.heap[D]? = some (.deferred (some [])) → c.wpIn F n P Q { a with defers := { target := .collected D, args := #[] } :: a.defers } W) :
    (Code.rangeFunc g ps assign body).wpIn F n P Q a w := by
  refine wpIn_rangeFunc fun fn hfn => ?_
  rw [hro]
  -- the two blocks that the statement lays: the deferred calls of its rounds, and its own record
  let rec0 : Loop := { state := .ready, pending := none, fn := fn, tmps := a.tmps, params := ps, assign := assign, body := body, defers := w.heap.size }
  let st : LoopState → Option Code → Obj := fun s p => .loop { rec0 with state := s, pending := p }
  obtain ⟨V, hV⟩ : ∃ V, V = (w.alloc (.deferred (some []))).alloc (st .ready none) := ⟨_, rfl⟩
  have vsz : V.heap.size = w.heap.size + 2 := by rw [hV]; simp
  have vb : Below w.heap.size w V := by rw [hV]; exact ((Below.refl _ w).alloc (Nat.le_refl _) _).alloc (by simp) _
  have vd : V.heap[w.heap.size]? = some (.deferred (some [])) := by
    rw [hV]; exact (Below.heap_alloc _ _ _ (by simp)).trans (World.alloc_heap_new w _)
  have vl : V.heap[w.heap.size + 1]? = some (st .ready none) := by
    rw [hV]; have := World.alloc_heap_new (w.alloc (.deferred (some []))) (st .ready none); rwa [World.size_alloc] at this
  -- what stands between two rounds, and behind the last one
  let J : List α → World → Prop := fun pre X => I pre X ∧ X.heap[w.heap.size + 1]? = some (st .ready none) ∧ X.heap[w.heap.size]? = some (.deferred (some []))
  let Jx : List α → World → Prop := fun pre X => ∃ c, Ix c pre X ∧ X.heap[w.heap.size + 1]? = some (st .done (some c)) ∧ X.heap[w.heap.size]? = some (.deferred (some []))
  have hJ : Low V.heap.size J := fun s X X' h hb => ⟨hI s X X' h.1 (hb.mono (by omega)), (hb.block _ (by omega)).trans h.2.1, (hb.block _ (by omega)).trans h.2.2⟩
  have hJx : Low V.heap.size Jx := fun s X X' h hb => by
    obtain ⟨c, h1, h2, h3⟩ := h
    exact ⟨c, hIx c s X X' h1 (hb.mono (by omega)), (hb.block _ (by omega)).trans h2, (hb.block _ (by omega)).trans h3⟩
  refine ⟨w.heap.size + 1, [{ target := .collected w.heap.size, args := #[] }], V, { target := .fn (.func gf) lb, args := #[.func (.yield (w.heap.size + 1)) #[] #[]] }, V, gf,
    #[.func (.yield (w.heap.size + 1)) #[] #[]] ++ lb, V, ?_, ?_, ?_, ?_, fun _ => h1, ?_⟩
  · rw [hV]; exact run_enterLoop_outer _ _ _ _ _
  · simp only [resolve, hg]
    simp [go_sem]
  · intro f' hf'; simp [Target.leads] at hf'; subst hf'; exact hFg
  · simp [invoke, go_sem, eg]
  refine (hseq (w.heap.size + 1) J Jx V (hb0.trans (vb.mono hb0.size)) hJ hJx ?_ ⟨hI _ _ _ h0 vb, vl, vd⟩).mono ?_
  · -- one round
    rintro pre x X ⟨hi, hl, hd⟩ hlen hXsz
    have hlt : w.heap.size + 1 < X.heap.size := (Array.getElem?_eq_some_iff.1 hl).1
    have hy := run_yield (P := P) (args := encs x) hl (hps x)
    refine ⟨fn, _, assign, body, hy, roundIn_of_wpIn hfn (hassign _ x X _ ⟨_, run_beginRound hl rfl, ?_⟩)⟩
    obtain ⟨Y, hY⟩ : ∃ Y, Y = X.putObj (w.heap.size + 1) (st .busy none) := ⟨_, rfl⟩
    have yl : Y.heap[w.heap.size + 1]? = some (st .busy none) := by rw [hY]; exact World.putObj_heap_same hlt
    have yd : Y.heap[w.heap.size]? = some (.deferred (some [])) := by rw [hY]; exact (World.putObj_heap_other (by omega)).trans hd
    have yi : I pre Y := by rw [hY]; exact hI _ _ _ hi (below_put X _ (by omega))
    have ya : Above V.heap.size X Y := by rw [hY]; exact above_put X _ (by omega)
    have ysz : Y.heap.size = X.heap.size := by rw [hY]; simp
    show Code.wpIn (F.inRound (w.heap.size + 1)) (n - 1 - 1) P body _ (a₁ x) (X.putObj (w.heap.size + 1) (st .busy none))
    rw [← hY]
    -- the record when the round is over
    have close : ∀ (jump : Option Code) (Z : World), Above w.heap.size Y Z →
        (Instr.endRound (w.heap.size + 1) jump).run P Z = .ok (.bool jump.isNone) (Z.putObj (w.heap.size + 1) (st (if jump.isNone then .ready else .done) jump)) ∧
        (Z.putObj (w.heap.size + 1) (st (if jump.isNone then .ready else .done) jump)).heap[w.heap.size + 1]? = some (st (if jump.isNone then .ready else .done) jump) ∧
        (Z.putObj (w.heap.size + 1) (st (if jump.isNone then .ready else .done) jump)).heap[w.heap.size]? = some (.deferred (some [])) ∧
        Above V.heap.size X (Z.putObj (w.heap.size + 1) (st (if jump.isNone then .ready else .done) jump)) := fun jump Z hz => by
      have zl : Z.heap[w.heap.size + 1]? = some (st .busy none) := (hz.same _ (by omega) (by omega)).trans yl
      have zd : Z.heap[w.heap.size]? = some (.deferred (some [])) := (hz.same _ (by omega) (by omega)).trans yd
      exact ⟨run_endRound (P := P) (r := { rec0 with state := .busy, pending := none }) jump zl, World.putObj_heap_same (by have := hz.size; omega), (World.putObj_heap_other (by omega)).trans zd, ya.trans ((hz.mono (by omega)).trans (above_put Z _ (by omega)))⟩
    refine wpIn_mono (hbody _ pre x Y yi hlen (by omega)) ?_
    rintro e a3 Z hp
    cases e with
    | normal =>
      obtain ⟨hz, hi3⟩ := hp
      obtain ⟨c1, c2, c3, c4⟩ := close none Z hz
      exact ⟨_, _, c1, .inl ⟨rfl, ⟨hI _ _ _ hi3 (below_put Z _ (by omega)), c2, c3⟩, c4⟩⟩
    | ret =>
      obtain ⟨hz, hi3⟩ := hp
      obtain ⟨c1, c2, c3, c4⟩ := close (some .ret) Z hz
      exact ⟨_, _, c1, .inr ⟨rfl, ⟨_, hIx _ _ _ _ hi3 (below_put Z _ (by omega)), c2, c3⟩, c4⟩⟩
    | exit id =>
      obtain ⟨hz, hi3⟩ := hp
      obtain ⟨c1, c2, c3, c4⟩ := close (some (.exit id)) Z hz
      exact ⟨_, _, c1, .inr ⟨rfl, ⟨_, hIx _ _ _ _ hi3 (below_put Z _ (by omega)), c2, c3⟩, c4⟩⟩
    | goto t =>
      obtain ⟨hz, hi3⟩ := hp
      obtain ⟨c1, c2, c3, c4⟩ := close (some (.goto t)) Z hz
      exact ⟨_, _, c1, .inr ⟨rfl, ⟨_, hIx _ _ _ _ hi3 (below_put Z _ (by omega)), c2, c3⟩, c4⟩⟩
    | panic ch => exact hp.elim
    | outgrown => exact hp.elim
  · -- behind the iterator
    rintro e X ⟨⟨v, rfl⟩, ⟨xs, hS, hi, hl, hd⟩ | ⟨pre, hSp, c, hi, hl, hd⟩⟩
    · exact ⟨none, _, run_endLoop (P := P) hl (by simp), hdone _ xs _ hS (hI _ _ _ hi (below_put X _ (by omega))) (Nat.le_refl _) ((World.putObj_heap_other (by omega)).trans hd)⟩
    · exact ⟨some c, _, run_endLoop (P := P) hl (by simp), hstop _ c pre _ hSp (hIx c _ _ _ hi (below_put X _ (by omega))) (Nat.le_refl _) ((World.putObj_heap_other (by omega)).trans hd)⟩
end Go.Proofs.Kit
