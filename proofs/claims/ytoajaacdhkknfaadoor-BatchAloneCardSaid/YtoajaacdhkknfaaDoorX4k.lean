/- All kinds. -/
import Derived.Test.YtoajaacdhkknfaaDoorX4
namespace Go.Proofs.YtoajaacdhkknfaaDoor
open Go.RowKit Go.Proofs.Kit Go.Shelf
set_option maxRecDepth 100000 in
set_option maxHeartbeats 4000000 in
theorem kinds_blk (w : World) : Calls Tryd.prog 30 #[] w fun e w' => e = .returned (.agg (KA w.heap.size)) ∧ KindsB 69 w.heap.size w' ∧ Gr w w' := by
  go_enter Tryd.func30, Tryd.ntmps30
  go_wp2
  refine bodyPost_ret (v := .agg (KA w.heap.size)) (by as_aux_lemma => (simp [results, Tryd.results30, go_sem]; rfl)) rfl ⟨rfl, ?_, ?_⟩
  · exact (nine _ _ _ _ _ _ _ _ _ _).kinds
  · exact (nine _ _ _ _ _ _ _ _ _ _).gr
theorem kinds_any (w : World) : Calls Tryd.prog 30 #[] w fun e w' => e = .returned (.agg (KA w.heap.size)) ∧ KindsAt w.heap.size w' ∧ Gr w w' := (kinds_blk w).mono fun _ _ ⟨h1, h2, h3⟩ => ⟨h1, h2.at, h3⟩
end Go.Proofs.YtoajaacdhkknfaaDoor

