/- What a partition keeps: plain facts. -/
import Derived.Test.YtbcloahekffjdaaH14
namespace Go.Proofs.Kit
/-- While a part is parted: P holds of all ahead of i, of none behind j; what parts stands first. -/
structure PT (P : Int → Prop) (a b : Nat) (p : Int) (d0 : Array Int) (i j : Nat) (d : Array Int) : Prop where
  perm : Sort.PermIn a b d0 d
  pa : d[a]! = p
  lo : ∀ t, a < t → t < i → P d[t]!
  hi : ∀ t, j < t → t < b → ¬ P d[t]!
  ai : a + 1 ≤ i
  ib : i ≤ b
  aj : a ≤ j
  jb : j < b
  sz : b ≤ d0.size
def PLt (p x : Int) : Prop := x < p
def PNg (p x : Int) : Prop := ¬ p < x
section
variable {P : Int → Prop} {a b i j : Nat} {p : Int} {d0 d : Array Int}
theorem PT.size (h : PT P a b p d0 i j d) : b ≤ d.size := by rw [h.perm.1]; exact h.sz
theorem PT.start {pv : Nat} (ha : a ≤ pv) (hb : pv < b) (hs : b ≤ d0.size) : PT P a b d0[pv]! d0 (a + 1) (b - 1) (Sort.swp d0 a pv) :=
  ⟨Sort.swp_permIn _ _ _ _ _ (Nat.le_refl _) (by omega) ha hb hs, by
    by_cases e : a = pv
    · subst e; exact Sort.swp_right _ _ _ (by omega)
    · exact Sort.swp_left _ _ _ (by omega) e, fun t h1 h2 => by omega, fun t h1 h2 => by omega, Nat.le_refl _, by omega, by omega, by omega, hs⟩
theorem PT.up (h : PT P a b p d0 i j d) (hij : i ≤ j) (hl : P d[i]!) : PT P a b p d0 (i + 1) j d :=
  ⟨h.perm, h.pa, fun t h1 h2 => by
    by_cases e : t = i
    · subst e; exact hl
    · exact h.lo t h1 (by omega), h.hi, by have := h.ai; omega, by have := h.jb; omega, h.aj, h.jb, h.sz⟩
theorem PT.down (h : PT P a b p d0 i j d) (hij : i ≤ j) (hl : ¬ P d[j]!) : PT P a b p d0 i (j - 1) d :=
  ⟨h.perm, h.pa, h.lo, fun t h1 h2 => by
    by_cases e : t = j
    · subst e; exact hl
    · exact h.hi t (by omega) h2, h.ai, h.ib, by have := h.ai; omega, by have := h.jb; omega, h.sz⟩
theorem PT.swap (h : PT P a b p d0 i j d) (hij : i < j) (h1 : ¬ P d[i]!) (h2 : P d[j]!) : PT P a b p d0 (i + 1) (j - 1) (Sort.swp d i j) := by
  have hs := h.size
  have hai := h.ai
  have hjb := h.jb
  refine ⟨Sort.permIn_trans _ _ _ _ _ h.perm (Sort.swp_permIn _ _ _ _ _ (by omega) (by omega) (by omega) (by omega) hs), ?_, ?_, ?_, by omega, by omega, by omega, by omega, h.sz⟩
  · rw [Sort.swp_other _ _ _ _ (by omega) (by omega)]; exact h.pa
  · intro t h3 h4
    by_cases e : t = i
    · subst e; rw [Sort.swp_left _ _ _ (by omega) (by omega)]; exact h2
    · rw [Sort.swp_other _ _ _ _ e (by omega)]; exact h.lo t h3 (by omega)
  · intro t h3 h4
    by_cases e : t = j
    · subst e; rw [Sort.swp_right _ _ _ (by omega)]; exact h1
    · rw [Sort.swp_other _ _ _ _ (by omega) e]; exact h.hi t (by omega) h4
/-- What parts is laid between. -/
theorem PT.exit (h : PT P a b p d0 i j d) (hij : j < i) : Sort.PermIn a b d0 (Sort.swp d j a) ∧ (Sort.swp d j a)[j]! = p ∧ (∀ t, a ≤ t → t < j → P (Sort.swp d j a)[t]!) ∧ ∀ t, j < t → t < b → ¬ P (Sort.swp d j a)[t]! := by
  have hs := h.size
  have hai := h.ai
  have hjb := h.jb
  have haj := h.aj
  refine ⟨Sort.permIn_trans _ _ _ _ _ h.perm (Sort.swp_permIn _ _ _ _ _ haj hjb (Nat.le_refl _) (by omega) hs), ?_, ?_, ?_⟩
  · by_cases e : j = a
    · subst e; rw [Sort.swp_right _ _ _ (by omega)]; exact h.pa
    · rw [Sort.swp_left _ _ _ (by omega) e]; exact h.pa
  · intro t h3 h4
    by_cases e : t = a
    · subst e; rw [Sort.swp_right _ _ _ (by omega)]; exact h.lo j (by omega) hij
    · rw [Sort.swp_other _ _ _ _ (by omega) e]; exact h.lo t (by omega) (by omega)
  · intro t h3 h4
    rw [Sort.swp_other _ _ _ _ (by omega) (by omega)]; exact h.hi t h3 h4
end
end Go.Proofs.Kit
