/- A law for 'for x := range f' where the iterator writes in blocks of its own between the rounds (those from lo on, below hi), and reads those from klo on; the loop's body must leave these alone. No program is named here. -/
import Derived.Test.YtlhigfphfbmbjaaRngS
import Derived.Test.YtlhigfphfbmbjaaJ1
import Derived.Test.YtlhigfphfbmbjaaZA
namespace Go.Proofs.Kit
open Go.RowKit

/-- These blocks, and those from D on, lie as they lay. -/
def Kept9 (Kp : Nat → Prop) (D : Nat) (X X' : World) : Prop := X.heap.size ≤ X'.heap.size ∧ ∀ k, k < X.heap.size → Kp k ∨ D ≤ k → X'.heap[k]? = X.heap[k]?
theorem Kept9.trans {Kp : Nat → Prop} {D : Nat} {X Y Z : World} (h : Kept9 Kp D X Y) (k : Kept9 Kp D Y Z) : Kept9 Kp D X Z := ⟨Nat.le_trans h.1 k.1, fun j h1 h2 => (k.2 j (Nat.lt_of_lt_of_le h1 h.1) h2).trans (h.2 j h1 h2)⟩
theorem Kept9.below {Kp : Nat → Prop} {D : Nat} {X Y : World} (h : Below X.heap.size X Y) : Kept9 Kp D X Y := ⟨h.size, fun j h1 _ => h.block j h1⟩
/-- These blocks lie as they lay. -/
def Same9 (klo hi : Nat) (X X' : World) : Prop := X.heap.size ≤ X'.heap.size ∧ ∀ k, klo ≤ k → k < hi → X'.heap[k]? = X.heap[k]?
theorem Same9.trans {klo hi : Nat} {X Y Z : World} (h : Same9 klo hi X Y) (k : Same9 klo hi Y Z) : Same9 klo hi X Z := ⟨Nat.le_trans h.1 k.1, fun j h1 h2 => (k.2 j h1 h2).trans (h.2 j h1 h2)⟩
theorem Same9.below {klo hi B : Nat} {X Y : World} (h : Below B X Y) (hB : hi ≤ B) : Same9 klo hi X Y := ⟨h.size, fun j _ h2 => h.block j (Nat.lt_of_lt_of_le h2 hB)⟩
/-- WHAT AN ITERATOR PROMISES THAT WRITES IN BLOCKS OF ITS OWN: K is what it reads; what it has laid since the last round stays, too. -/
def SeqV {α : Type} (F : Fence) (n : Nat) (P : Program) (g : Nat) (lb : Array Value) (encs : α → Array Value) (S Sp : List α → Prop) (N lo hi : Nat) (Kp : Nat → Prop) (K KJ : World → Prop) : Prop :=
  ∀ (l : Nat) (J : Nat → List α → World → Prop) (Jx : List α → World → Prop) (W : World), (∀ D pre X, J D pre X → KJ X) → (∀ D pre X X', J D pre X → D ≤ X.heap.size → hi ≤ D → Mid lo hi X X' → J D pre X') →
    (∀ D pre x W1, J D pre W1 → D ≤ W1.heap.size → hi ≤ D → pre.length < N → YieldAt F (n - 1) P l (encs x) W1 fun e W' => (e = .returned (.bool true) ∧ J W'.heap.size (pre ++ [x]) W' ∧ Kept9 Kp D W1 W') ∨ (e = .returned (.bool false) ∧ Jx (pre ++ [x]) W')) →
    J W.heap.size [] W → hi ≤ W.heap.size → K W →
    CallsIn F n P g (#[.func (.yield l) #[] #[]] ++ lb) W fun e W' => (∃ v, e = .returned v) ∧ ((∃ D xs, S xs ∧ J D xs W') ∨ (∃ pre, Sp pre ∧ Jx pre W'))
/-- How the body of a round may be left. -/
def bodyV {α : Type} (B : Nat) (Kp : Nat → Prop) (D : Nat) (I : Nat → List α → World → Prop) (Ix : Code → List α → World → Prop) (xs : List α) (W : World) : Exit → Act → World → Prop
  | .normal, _, W' => Keep2 B W W' ∧ I W'.heap.size xs W' ∧ Kept9 Kp D W W'
  | .ret, _, W' => Keep2 B W W' ∧ Ix .ret xs W'
  | .exit id, _, W' => Keep2 B W W' ∧ Ix (.exit id) xs W'
  | .goto t, _, W' => Keep2 B W W' ∧ Ix (.goto t) xs W'
  | .panic _, _, _ => False
  | .outgrown, _, _ => False

variable {F : Fence} {n : Nat} {P : Program}

theorem rangeV {α : Type} {g : Operand} {ps : Array Tmp} {assign body : Code} {Q : Exit → Act → World → Prop} {a : Act} {w : World}
    (hro : F.round = none) (h1 : 1 ≤ n) {gf : Nat} {lb : Array Value} (hg : a.eval g = .func (.func gf) #[] lb) (hFg : F.fn gf) (eg : ∀ args w, (callFunc gf args).run P w = .ok (.enter gf args) w)
    {encs : α → Array Value} {S Sp : List α → Prop} {N lo hi : Nat} {Kp : Nat → Prop} {K KJ : World → Prop} (hseq : SeqV F (n - 1) P gf lb encs S Sp N lo hi Kp K KJ) (hhi : hi ≤ w.heap.size) (hKp : ∀ k, Kp k → k < hi) (hK0 : K w) (hKs : ∀ X X', K X → Below X.heap.size X X' → K X') (hps : ∀ x, (encs x).size = ps.size)
    (I : Nat → List α → World → Prop) (Ix : Code → List α → World → Prop) (hI : ∀ D s X X', I D s X → Aside w.heap.size X X' → I D s X') (hIx : ∀ c s X X', Ix c s X → Aside w.heap.size X X' → Ix c s X') (hIK : ∀ D s X, I D s X → KJ X) (hIb : ∀ D s X X', I D s X → D ≤ X.heap.size → hi ≤ D → Mid lo hi X X' → I D s X') (h0 : I (w.heap.size + 2) [] w) (a₁ : α → Nat → Act)
    (R : α → Nat → World → Prop) (hR : ∀ x r X X', R x r X → Aside w.heap.size X X' → R x r X')
    (hassign : ∀ (l : Nat) (x : α) (W : World) (K : Act → World → Prop), (∀ r W', Below W.heap.size W W' → W.heap.size ≤ r → R x r W' → K (a₁ x r) W') →
      assign.wpIn (F.inRound l) (n - 1 - 1) P (Exit.then K (fun _ _ _ => False)) { tmps := (ps.zip (encs x)).foldl (fun t (p, v) => t.setIfInBounds p v) a.tmps, defers := [] } W)
    (hbody : ∀ (l D : Nat) (pre : List α) (x : α) (r : Nat) (W : World), I D pre W → D ≤ W.heap.size → w.heap.size + 2 ≤ D → pre.length < N → NC w.heap.size W → R x r W → body.wpIn (F.inRound l) (n - 1 - 1) P (bodyV w.heap.size Kp D I Ix (pre ++ [x]) W) (a₁ x r) W)
    (hdone : ∀ (D D' : Nat) (xs : List α) (W : World), S xs → I D' xs W → w.heap.size ≤ D → W.heap[D]? = some (.deferred (some [])) → Q .normal { a with defers := { target := .collected D, args := #[] } :: a.defers } W)
    (hstop : ∀ (D : Nat) (c : Code) (pre : List α) (W : World), Sp pre → Ix c pre W → w.heap.size ≤ D → W.heap[D]? = some (.deferred (some [])) → c.wpIn F n P Q { a with defers := { target := .collected D, args := #[] } :: a.defers } W) :
    (Code.rangeFunc g ps assign body).wpIn F n P Q a w := by
  refine wpIn_rangeFunc fun fn hfn => ?_
  rw [hro]
  let rec0 : Loop := { state := .ready, pending := none, fn := fn, tmps := a.tmps, params := ps, assign := assign, body := body, defers := w.heap.size }
  let st : LoopState → Option Code → Obj := fun s p => .loop { rec0 with state := s, pending := p }
  obtain ⟨V, hV⟩ : ∃ V, V = (w.alloc (.deferred (some []))).alloc (st .ready none) := ⟨_, rfl⟩
  have vsz : V.heap.size = w.heap.size + 2 := by rw [hV]; simp
  have vb : Below w.heap.size w V := by rw [hV]; exact ((Below.refl _ w).alloc (Nat.le_refl _) _).alloc (by simp) _
  have va : Aside w.heap.size w V := ⟨vb.os, vb.tape, vb.output, vb.size, fun k _ _ hk => vb.block k hk, fun k vs t f hk h => by have := (Array.getElem?_eq_some_iff.1 h).1; omega⟩
  have vd : V.heap[w.heap.size]? = some (.deferred (some [])) := by
    rw [hV]; exact (Below.heap_alloc _ _ _ (by simp)).trans (World.alloc_heap_new w _)
  have vl : V.heap[w.heap.size + 1]? = some (st .ready none) := by
    rw [hV]; have := World.alloc_heap_new (w.alloc (.deferred (some []))) (st .ready none); rwa [World.size_alloc] at this
  -- a record turns
  have turn : ∀ (X : World) (s : LoopState) (p : Option Code) (o : Obj), X.heap[w.heap.size + 1]? = some (st s p) → X.heap[w.heap.size]? = some (.deferred (some [])) → Aside w.heap.size X (X.putObj (w.heap.size + 1) o) := fun X s p o hl hd =>
    ⟨rfl, rfl, rfl, by simp, fun k _ h2 _ => World.putObj_heap_other (by omega), fun k vs t f hk h => by
      rcases hk with rfl | rfl
      · rw [hd] at h; cases h
      · rw [hl] at h; cases h⟩
  let J : Nat → List α → World → Prop := fun D pre X => w.heap.size + 2 ≤ D ∧ I D pre X ∧ X.heap[w.heap.size + 1]? = some (st .ready none) ∧ X.heap[w.heap.size]? = some (.deferred (some []))
  let Jx : List α → World → Prop := fun pre X => ∃ c, Ix c pre X ∧ X.heap[w.heap.size + 1]? = some (st .done (some c)) ∧ X.heap[w.heap.size]? = some (.deferred (some []))
  refine ⟨w.heap.size + 1, [{ target := .collected w.heap.size, args := #[] }], V, { target := .fn (.func gf) lb, args := #[.func (.yield (w.heap.size + 1)) #[] #[]] }, V, gf,
    #[.func (.yield (w.heap.size + 1)) #[] #[]] ++ lb, V, ?_, ?_, ?_, ?_, fun _ => h1, ?_⟩
  · rw [hV]; exact run_enterLoop_outer _ _ _ _ _
  · simp only [resolve, hg]
    simp [go_sem]
  · intro f' hf'; simp [Target.leads] at hf'; subst hf'; exact hFg
  · simp [invoke, go_sem, eg]
  refine (hseq (w.heap.size + 1) J Jx V (fun D pre X h => hIK _ _ _ h.2.1) (fun D pre X X' h hs hh hb => ⟨h.1, hIb _ _ _ _ h.2.1 hs hh hb, (hb.same _ (by omega) (Array.getElem?_eq_some_iff.1 h.2.2.1).1).trans h.2.2.1, (hb.same _ (by omega) (Array.getElem?_eq_some_iff.1 h.2.2.2).1).trans h.2.2.2⟩) ?_ ⟨by omega, by rw [vsz]; exact hI _ _ _ _ h0 va, vl, vd⟩ (by omega) (hKs _ _ hK0 vb)).mono ?_
  · -- one round
    rintro D pre x X0 ⟨hD2, hi0, hl0, hd0⟩ hDX hhD hlen
    have hlt0 : w.heap.size + 1 < X0.heap.size := (Array.getElem?_eq_some_iff.1 hl0).1
    have hy := run_yield (P := P) (args := encs x) hl0 (hps x)
    refine ⟨fn, _, assign, body, hy, roundIn_of_wpIn hfn (hassign _ x X0 _ fun r X hbx hrx hRx => ⟨_, run_beginRound ((hbx.block _ hlt0).trans hl0) rfl, ?_⟩)⟩
    have hl : X.heap[w.heap.size + 1]? = some (st .ready none) := (hbx.block _ hlt0).trans hl0
    have hd : X.heap[w.heap.size]? = some (.deferred (some [])) := (hbx.block _ (by omega)).trans hd0
    have hiX : I D pre X := hIb _ _ _ _ hi0 hDX hhD (.of_below hbx)
    have hlt : w.heap.size + 1 < X.heap.size := (Array.getElem?_eq_some_iff.1 hl).1
    obtain ⟨Y, hY⟩ : ∃ Y, Y = X.putObj (w.heap.size + 1) (st .busy none) := ⟨_, rfl⟩
    have yl : Y.heap[w.heap.size + 1]? = some (st .busy none) := by rw [hY]; exact World.putObj_heap_same hlt
    have yd : Y.heap[w.heap.size]? = some (.deferred (some [])) := by rw [hY]; exact (World.putObj_heap_other (by omega)).trans hd
    have yi : I D pre Y := by rw [hY]; exact hI _ _ _ _ hiX (turn X _ _ _ hl hd)
    have yR : R x r Y := by rw [hY]; exact hR _ _ _ _ hRx (turn X _ _ _ hl hd)
    have ysz : Y.heap.size = X.heap.size := by rw [hY]; simp
    have yn : NC w.heap.size Y := ⟨by omega, fun k vs t f hk h => by
      rcases hk with rfl | rfl
      · rw [yd] at h; cases h
      · rw [yl] at h; cases h⟩
    show Code.wpIn (F.inRound (w.heap.size + 1)) (n - 1 - 1) P body _ (a₁ x r) (X.putObj (w.heap.size + 1) (st .busy none))
    rw [← hY]
    have close : ∀ (jump : Option Code) (Z : World), Keep2 w.heap.size Y Z →
        (Instr.endRound (w.heap.size + 1) jump).run P Z = .ok (.bool jump.isNone) (Z.putObj (w.heap.size + 1) (st (if jump.isNone then .ready else .done) jump)) ∧
        (Z.putObj (w.heap.size + 1) (st (if jump.isNone then .ready else .done) jump)).heap[w.heap.size + 1]? = some (st (if jump.isNone then .ready else .done) jump) ∧
        (Z.putObj (w.heap.size + 1) (st (if jump.isNone then .ready else .done) jump)).heap[w.heap.size]? = some (.deferred (some [])) ∧
        Aside w.heap.size Z (Z.putObj (w.heap.size + 1) (st (if jump.isNone then .ready else .done) jump)) := fun jump Z hz => by
      have zl : Z.heap[w.heap.size + 1]? = some (st .busy none) := hz.2.2.trans yl
      have zd : Z.heap[w.heap.size]? = some (.deferred (some [])) := hz.2.1.trans yd
      exact ⟨run_endRound (P := P) (r := { rec0 with state := .busy, pending := none }) jump zl, World.putObj_heap_same (by have := hz.1; omega), (World.putObj_heap_other (by omega)).trans zd, turn Z _ _ _ zl zd⟩
    have s0 : Kept9 Kp D X0 Y := by
      refine (Kept9.below hbx).trans ⟨by rw [ysz]; exact Nat.le_refl _, fun j _ hj => ?_⟩
      rw [hY]
      exact World.putObj_heap_other (hj.elim (fun hj => by have := hKp j hj; omega) (fun hj => by omega))
    refine wpIn_mono (hbody _ D pre x r Y yi (by have := s0.1; omega) hD2 hlen yn yR) ?_
    rintro e a3 Z hp
    cases e with
    | normal =>
      obtain ⟨hz, hi3, hz3⟩ := hp
      obtain ⟨c1, c2, c3, c4⟩ := close none Z hz
      refine ⟨_, _, c1, .inl ⟨rfl, ⟨by have := hz.1; simp; omega, by simpa using hI _ _ _ _ hi3 c4, c2, c3⟩, (s0.trans hz3).trans ⟨by simp, fun j _ hj => World.putObj_heap_other (hj.elim (fun hj => by have := hKp j hj; omega) (fun hj => by omega))⟩⟩⟩
    | ret =>
      obtain ⟨hz, hi3⟩ := hp
      obtain ⟨c1, c2, c3, c4⟩ := close (some .ret) Z hz
      exact ⟨_, _, c1, .inr ⟨rfl, _, hIx _ _ _ _ hi3 c4, c2, c3⟩⟩
    | exit id =>
      obtain ⟨hz, hi3⟩ := hp
      obtain ⟨c1, c2, c3, c4⟩ := close (some (.exit id)) Z hz
      exact ⟨_, _, c1, .inr ⟨rfl, _, hIx _ _ _ _ hi3 c4, c2, c3⟩⟩
    | goto t =>
      obtain ⟨hz, hi3⟩ := hp
      obtain ⟨c1, c2, c3, c4⟩ := close (some (.goto t)) Z hz
      exact ⟨_, _, c1, .inr ⟨rfl, _, hIx _ _ _ _ hi3 c4, c2, c3⟩⟩
    | panic ch => exact hp.elim
    | outgrown => exact hp.elim
  · -- behind the iterator
    rintro e X ⟨⟨v, rfl⟩, ⟨D, xs, hS, _, hi, hl, hd⟩ | ⟨pre, hSp, c, hi, hl, hd⟩⟩
    · exact ⟨none, _, run_endLoop (P := P) hl (by simp), hdone _ D xs _ hS (hI _ _ _ _ hi (turn X _ _ _ hl hd)) (Nat.le_refl _) ((World.putObj_heap_other (by omega)).trans hd)⟩
    · exact ⟨some c, _, run_endLoop (P := P) hl (by simp), hstop _ c pre _ hSp (hIx c _ _ _ hi (turn X _ _ _ hl hd)) (Nat.le_refl _) ((World.putObj_heap_other (by omega)).trans hd)⟩
end Go.Proofs.Kit

