/- What a law cuts its changes to: few. -/
import Derived.Test.YtoajaacdhkknfaaDoorX10
namespace Go.Proofs.Kit
open Go.RowKit
def fewC (l : List Chg) : List Chg := (l.take 80).map cutC
theorem fewC_len (l : List Chg) : (fewC l).length ≤ 80 := by simp [fewC]; omega
theorem fewC_fits {l : List Chg} : ∀ x ∈ fewC l, Fits x ∧ x.key.size ≤ 60 ∧ x.name.size ≤ 60 ∧ x.val.size ≤ 60 ∧ x.to.size ≤ 60 := by
  intro x hx
  obtain ⟨y, _, rfl⟩ := List.mem_map.1 hx
  have h1 := cutS_size 60 y.key
  have h2 := cutS_size 60 y.name
  have h3 := cutS_size 60 y.val
  have h4 := cutS_size 60 y.to
  refine ⟨⟨?_, ?_, ?_, ?_⟩, h1, h2, h3, h4⟩ <;> simp only [cutC] <;> omega
theorem add_pos (a : Addr) (m j : Nat) (hj : j ≠ 0) : a.add (m + j) = ⟨(a.add m).block, (a.add m).off + j, none⟩ := by
  unfold Addr.add
  by_cases hm : m = 0
  · subst hm
    simp [hj]
  · simp [hm, Nat.add_assoc]
theorem arg_cells {w : World} {a : Addr} {l : List Chg} (h : ∀ i (h : i < l.length) j u, (cc l[i])[j]? = some u → w.cell? (a.add (i * 5 + j)) = some u) (i : Nat) (hi : i < l.length) :
    w.cell? (a.add (i * 5)) = some (.int .i64 l[i].kind) ∧ w.cell? ⟨(a.add (i * 5)).block, (a.add (i * 5)).off + 1, none⟩ = some (.string l[i].key) ∧ w.cell? ⟨(a.add (i * 5)).block, (a.add (i * 5)).off + 2, none⟩ = some (.string l[i].name) ∧ w.cell? ⟨(a.add (i * 5)).block, (a.add (i * 5)).off + 3, none⟩ = some (.string l[i].val) ∧ w.cell? ⟨(a.add (i * 5)).block, (a.add (i * 5)).off + 4, none⟩ = some (.string l[i].to) := by
  refine ⟨h i hi 0 _ rfl, ?_, ?_, ?_, ?_⟩
  · rw [← add_pos a _ 1 (by decide)]; exact h i hi 1 _ rfl
  · rw [← add_pos a _ 2 (by decide)]; exact h i hi 2 _ rfl
  · rw [← add_pos a _ 3 (by decide)]; exact h i hi 3 _ rfl
  · rw [← add_pos a _ 4 (by decide)]; exact h i hi 4 _ rfl
end Go.Proofs.Kit
namespace Go.Proofs.YtoajaacdhkknfaaDoor
open Go.RowKit Go.Proofs.Kit Go.Shelf
theorem infoC : ∃ i, Tryd.prog.info? 31 = some i ∧ i.zero = some (CV Chg.zero) ∧ i.size = 5 ∧ i.bytes = 72 := by
  obtain ⟨i, h, h0, h1, h2⟩ := info_parts (show (Tryd.prog.info? 31).map (fun i => (i.zero, i.size, i.bytes)) = some (some (CV Chg.zero), 5, 72) by kernel_rfl)
  exact ⟨i, h, h0, h1, h2⟩
end Go.Proofs.YtoajaacdhkknfaaDoor

