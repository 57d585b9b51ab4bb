/- Rows of changes; slices.Equal of changes. -/
import Derived.Test.YtoajaacdhkknfaaDoorX6
namespace Go.Proofs.Kit
open Go.RowKit
def cc (c : Chg) : List Value := [.int .i64 c.kind, .string c.key, .string c.name, .string c.val, .string c.to]
/-- How changes lie. -/
def chgE : Enc Chg := ⟨5, cc, fun _ => rfl, fun x u h => by simp only [cc, List.mem_cons, List.not_mem_nil, or_false] at h; rcases h with rfl | rfl | rfl | rfl | rfl <;> rfl, by decide⟩
theorem ch_cells {w : World} {b off : Nat} {l : List Chg} (h : ECells chgE w b off l) (i : Nat) (hi : i < l.length) :
    w.cell? ⟨b, off + i * 5, none⟩ = some (.int .i64 l[i].kind) ∧ w.cell? ⟨b, off + i * 5 + 1, none⟩ = some (.string l[i].key) ∧ w.cell? ⟨b, off + i * 5 + 2, none⟩ = some (.string l[i].name) ∧ w.cell? ⟨b, off + i * 5 + 3, none⟩ = some (.string l[i].val) ∧ w.cell? ⟨b, off + i * 5 + 4, none⟩ = some (.string l[i].to) :=
  ⟨h i hi 0 _ rfl, h i hi 1 _ rfl, h i hi 2 _ rfl, h i hi 3 _ rfl, h i hi 4 _ rfl⟩
end Go.Proofs.Kit
namespace Go.Proofs.YtoajaacdhkknfaaDoor
open Go.RowKit Go.Proofs.Kit Go.Shelf
end Go.Proofs.YtoajaacdhkknfaaDoor

