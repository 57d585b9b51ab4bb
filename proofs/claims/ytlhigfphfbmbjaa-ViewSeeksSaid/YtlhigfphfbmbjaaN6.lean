/- slices.Compact of numbers. -/
import Derived.Test.YtlhigfphfbmbjaaN5
namespace Go.Proofs.Kit
open Go.RowKit
theorem Owns.facts {k : IntKind} {t : TypeId} {B : Nat} {w : World} {l : List Int} {g n cap : Nat} (h : Owns k t B w (.slice (some ⟨g, 0, none⟩) n cap) l) : (∀ i (h : i < l.length), w.cell? ⟨g, i, none⟩ = some (.int k l[i])) ∧ (∀ j, w.frozen? ⟨g, j, none⟩ = false) ∧ g < w.heap.size ∧ B ≤ g ∧ l.length = n ∧ n ≤ cap ∧ cap ≤ 9223372036854775807 := by
  rcases h.2 with ⟨h1, _⟩ | ⟨g', cap', cur, h1, hg, hb, hc, hm, _, h4⟩
  · cases h1
  · injection h1 with h1 h2 h3
    injection h1 with h1
    injection h1 with h1 _ _
    subst h1 h3
    have hb' : Blk w g cur t := hb
    refine ⟨fun i hi => ?_, fun j => hb'.frozen j, hb'.lt, hg, h2.symm, by omega, by unfold maxLen at hm; omega⟩
    have : (cur.toList.take l.length)[i]? = some (.int k l[i]) := by
      rw [Nat.mul_one] at h4; rw [h4]; simp [hi]
    rw [List.getElem?_take_of_lt hi] at this
    rw [hb'.cell]
    simpa using this
theorem Owns.store {k : IntKind} {t : TypeId} {B : Nat} {w : World} {l : List Int} {g n cap i : Nat} (h : Owns k t B w (.slice (some ⟨g, 0, none⟩) n cap) l) (hi : i < l.length) (x : Int) : Owns k t B (w.setCell ⟨g, i, none⟩ (.int k x)) (.slice (some ⟨g, 0, none⟩) n cap) (l.set i x) := by
  obtain ⟨g', cap', e, _, _, _, _, _, _, h'⟩ := h.set hi x
  injection e with e1 e2 e3
  injection e1 with e1
  injection e1 with e1 _ _
  subst e1
  exact h'
theorem Owns.drewN {k : IntKind} {t : TypeId} {B : Nat} {w : World} {v : Value} {l : List Int} (h : Owns k t B w v l) (n : Nat) : Owns k t B (w.drewN n) v l := h
end Go.Proofs.Kit
namespace Go.Proofs.Ytlhigfphfbmbjaa
open Go.RowKit Go.Proofs.Kit
theorem zerou (w : World) : (zeroValue 51).run Try.prog w = .ok (.int .u64 0) w := by kernel_rfl
end Go.Proofs.Ytlhigfphfbmbjaa

