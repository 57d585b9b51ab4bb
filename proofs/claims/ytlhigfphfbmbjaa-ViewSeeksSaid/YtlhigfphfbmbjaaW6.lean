/- What tiers say, as a map keyed by pairs; tiers.said's say. -/
import Derived.Test.YtlhigfphfbmbjaaW0
import Derived.Test.YtlhigfphfbmbjaaN2
import Derived.Maps.RangeWalk
import Derived.Maps.OwnOps
import Derived.Maps.OwnSet
import Derived.DeepKeys4
namespace Go.Proofs.Kit
open Go.RowKit
theorem wf_of_Wd {x : Int} (h : Wd x) : (Lit.int .u64 x).wf = true := by
  obtain ⟨h1, h2⟩ := h
  simp [Lit.wf, IntKind.min, IntKind.max, IntKind.signed, IntKind.bits]
  omega
theorem Wd_of_wf {x : Int} (h : (Lit.int .u64 x).wf = true) : Wd x := by
  simp [Lit.wf, IntKind.min, IntKind.max, IntKind.signed, IntKind.bits] at h
  unfold Wd
  omega
/-- A pair as a key. -/
def kl (p : Pr) : Lit := .string (keyBytes [.int .u64 p.1, .int .u64 p.2])
end Go.Proofs.Kit
namespace Go.Proofs.Ytlhigfphfbmbjaa
open Go.RowKit Go.Proofs.Kit Go.Maps
theorem laidO : laidOutB Try.prog = true := by kernel_rfl
theorem wideP : (match Try.prog.underlying 53 with | some (.array _ _) | some (.struct _) => true | _ => false) = true := by rw [Try.underlying53]
theorem keyTP : Try.prog.keyType 53 = true := by kernel_rfl
theorem cellsPr : Try.prog.cellsOf 53 = 2 := by kernel_rfl
theorem cellsU : Try.prog.cellsOf 51 = 1 := by kernel_rfl
set_option maxRecDepth 100000 in
theorem lawP : Keyed Try.prog 53 := Keyed.of_law (deep_law_laid laidO (m := 2) (by omega) (of_decide_eq_true (by kernel_rfl)) (by kernel_rfl) wideP)
theorem sizeT : ∃ m, Try.prog.types.size = m + 1 := by
  have h : decide (0 < Try.prog.types.size) = true := by kernel_rfl
  have := of_decide_eq_true h
  exact ⟨Try.prog.types.size - 1, by omega⟩
theorem lits_u (m : Nat) (x : Value) : Try.prog.keyLits (m + 1) 51 [x] = none ∨ ∃ a, x = .int .u64 a ∧ (Lit.int .u64 a).wf = true := by
  unfold Program.keyLits
  simp only [Try.underlying51]
  cases x with
  | int q n =>
    by_cases h : q = .u64 ∧ (Lit.int .u64 n).wf = true
    · exact .inr ⟨n, by rw [h.1], h.2⟩
    · simp only [if_neg h]
      exact .inl trivial
  | _ => exact .inl rfl
theorem keyP {p : Pr} (h : Wp p) : keyOf Try.prog 53 (PV p.1 p.2) = some (kl p) := by
  have h1 := wf_of_Wd h.1
  have h2 := wf_of_Wd h.2
  obtain ⟨m, hm⟩ := sizeT
  unfold keyOf
  simp only [Try.underlying53]
  rw [if_pos (by simp [keyTP, Value.formed, Try.underlying53, cellsPr]), hm]
  unfold Program.keyLits
  simp only [Try.underlying53, Value.cells]
  rw [if_pos (by rw [cellsPr]; exact ⟨rfl, by decide +kernel⟩)]
  simp [cellsU, Program.keyLits, Try.underlying51, h1, h2, kl]
set_option maxRecDepth 100000 in
theorem key_inv {v : Value} {l : Lit} (h : keyOf Try.prog 53 v = some l) : ∃ p : Pr, Wp p ∧ v = PV p.1 p.2 ∧ l = kl p := by
  have h0 := h
  obtain ⟨m, hm⟩ := sizeT
  unfold keyOf at h
  simp only [Try.underlying53] at h
  split at h
  · rename_i hf
    simp only [keyTP, Bool.true_and] at hf
    cases v with
    | agg cs =>
      simp [Value.formed, Try.underlying53, cellsPr] at hf
      obtain ⟨cs⟩ := cs
      match cs, hf with
      | [x, y], _ =>
        rw [hm] at h
        unfold Program.keyLits at h
        simp only [Try.underlying53, Value.cells] at h
        rw [if_pos (by rw [cellsPr]; exact ⟨rfl, by decide +kernel⟩)] at h
        rcases lits_u m x with e | ⟨a, rfl, wa⟩
        · simp [cellsU, e] at h
        · rcases lits_u m y with e | ⟨b, rfl, wb⟩
          · simp [cellsU, e] at h
          · have hw : Wp (a, b) := ⟨Wd_of_wf wa, Wd_of_wf wb⟩
            refine ⟨(a, b), hw, rfl, ?_⟩
            have := keyP hw
            rw [h0] at this
            injection this
    | _ => simp [Value.formed, Try.underlying53] at hf
  · cases h
set_option maxRecDepth 100000 in
theorem kl_inj {p q : Pr} (hp : Wp p) (hq : Wp q) (h : kl p = kl q) : p = q := by
  have h1 := keyP hp
  rw [h] at h1
  have := lawP.inj h1 (keyP hq)
  obtain ⟨p1, p2⟩ := p
  obtain ⟨q1, q2⟩ := q
  simp only [PV, Value.agg.injEq, Array.mk.injEq, List.cons.injEq, Value.int.injEq, true_and, and_true] at this
  rw [this.1, this.2]
theorem key_lit {p : Pr} (h : Wp p) : WideAt.IsKeyLit (kl p) := by
  have := keyP h
  exact lawP.key this
/-- Block b of w is a map of at most n entries; at the key p stands f p, or nothing, where that is 0. -/
def WM (w : World) (b n : Nat) (f : Pr → Int) : Prop :=
  ∃ D : DataW Unit, w.ownsMap Try.prog 53 (plainElem Try.prog 127) b n D ∧ ∀ p, Wp p → D.atKey (kl p) (.lit (.int .i8 0)) = .lit (.int .i8 (f p)) ∧ Maps.has D (kl p) = decide (f p ≠ 0)
theorem WM.mk' {w : World} {b n : Nat} {f g : Pr → Int} (h : WM w b n f) (e : ∀ p, Wp p → f p = g p) : WM w b n g := by
  obtain ⟨D, h1, h2⟩ := h
  exact ⟨D, h1, fun p hp => by rw [← e p hp]; exact h2 p hp⟩
theorem WM.made (w : World) : WM (w.alloc (.map #[] 0)) w.heap.size 0 (fun _ => 0) := ⟨_, World.ownsMap_made _ _ _ _, fun _ _ => ⟨rfl, rfl⟩⟩
theorem WM.kept {w w' : World} {b n : Nat} {f : Pr → Int} {row : Option Nat} (h : WM w b n f) (hg : w.grownBy w' row) (hne : some b ≠ row) : WM w' b n f := by
  obtain ⟨D, h1, h2⟩ := h
  exact ⟨D, h1.kept hg hne, h2⟩
theorem WM.lt {w : World} {b n : Nat} {f : Pr → Int} (h : WM w b n f) : b < w.heap.size := by
  obtain ⟨D, h1, _⟩ := h
  exact h1.lt
theorem WM.same {w w' : World} {b n : Nat} {f : Pr → Int} (h : WM w b n f) (hs : w'.heap[b]? = w.heap[b]?) : WM w' b n f := by
  obtain ⟨D, ⟨es, clock, hb, r⟩, h2⟩ := h
  exact ⟨D, ⟨es, clock, hs.trans hb, r⟩, h2⟩
theorem WM.later {w w' : World} {b n : Nat} {f : Pr → Int} (h : WM w b n f) (hb : Below w.heap.size w w') : WM w' b n f := h.same (hb.block b h.lt)
theorem WM.mono {w : World} {b n m : Nat} {f : Pr → Int} (h : WM w b n f) (hm : n ≤ m) : WM w b m f := by
  obtain ⟨D, h1, h2⟩ := h
  exact ⟨D, h1.mono hm, h2⟩
theorem put_says {b n : Nat} {w : World} {D : DataW Unit} {f : Pr → Int} {p : Pr} {k : Int} (hown : w.ownsMap Try.prog 53 (plainElem Try.prog 127) b n D) (h : ∀ p, Wp p → D.atKey (kl p) (.lit (.int .i8 0)) = .lit (.int .i8 (f p)) ∧ Maps.has D (kl p) = decide (f p ≠ 0)) (hp : Wp p) (hk : k ≠ 0) :
    ∀ q, Wp q → (D.put (kl p) (.lit (.int .i8 k))).atKey (kl q) (.lit (.int .i8 0)) = .lit (.int .i8 (if q = p then k else f q)) ∧ Maps.has (D.put (kl p) (.lit (.int .i8 k))) (kl q) = decide ((if q = p then k else f q) ≠ 0) := by
  intro q hq
  have hD : IsMap D := hown.isMap
  by_cases e : q = p
  · subst e
    rw [if_pos rfl, atKey_put_same hD (key_lit hq), has_put_same hD (key_lit hq)]
    simp [hk]
  · have hne : kl q ≠ kl p := fun c => e (kl_inj hq hp c)
    rw [if_neg e, atKey_put_other hne, has_put_other hne]
    exact h q hq
end Go.Proofs.Ytlhigfphfbmbjaa

