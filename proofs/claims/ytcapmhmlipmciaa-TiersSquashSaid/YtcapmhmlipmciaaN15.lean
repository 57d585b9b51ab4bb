/- RunParts: the law's walk. -/
import Derived.Test.YtcapmhmlipmciaaN14
namespace Go.Proofs.Ytcapmhmlipmciaa
open Go.RowKit Go.Proofs.Kit
theorem cmb_run (k0 k1 k2 : Bool) (a b : List Pr) : Run (cmb k0 k1 k2 a b) := by
  unfold cmb
  split
  · rename_i h; exact comb_run h.1.1 h.2.1 _ _ _
  · exact Run.nil
theorem comb_le (k0 k1 k2 : Bool) (a b : List Pr) : (comb k0 k1 k2 a b).length ≤ a.length + b.length := Nat.le_trans (keepP_len _ _ _ _) (tog_len _ _)
theorem cmb_le (k0 k1 k2 : Bool) (a b : List Pr) : (cmb k0 k1 k2 a b).length ≤ a.length + b.length := by
  unfold cmb
  split
  · exact comb_le _ _ _ _ _
  · simp
theorem cmb_mem {a b : List Pr} (h : okP a ∧ okP b) (k0 k1 k2 : Bool) (p : Pr) : p ∈ cmb k0 k1 k2 a b ↔ (k0 = true ∧ p ∈ a ∧ p ∉ b) ∨ (k1 = true ∧ p ∈ a ∧ p ∈ b) ∨ (k2 = true ∧ p ∉ a ∧ p ∈ b) := by
  rw [cmb, if_pos h]
  exact comb_mem h.1.1 h.2.1 _ _ _ p
theorem cmb_parts {a b : List Pr} (h : okP a ∧ okP b) (hs : a.length + b.length ≤ 1000) : cmb true true true (cmb true false false a b) (cmb false true false a b) = a := by
  have h' : okP (cmb true false false a b) ∧ okP (cmb false true false a b) := ⟨⟨cmb_run _ _ _ _ _, Nat.le_trans (cmb_le _ _ _ _ _) (by omega)⟩, ⟨cmb_run _ _ _ _ _, Nat.le_trans (cmb_le _ _ _ _ _) (by omega)⟩⟩
  refine run_ext (cmb_run _ _ _ _ _) h.1.1 fun p => ?_
  rw [cmb_mem h', cmb_mem h, cmb_mem h]
  by_cases h1 : p ∈ a <;> by_cases h2 : p ∈ b <;> simp [h1, h2]
theorem cmb_swap {a b : List Pr} (h : okP a ∧ okP b) : cmb true true true b a = cmb true true true a b := by
  refine run_ext (cmb_run _ _ _ _ _) (cmb_run _ _ _ _ _) fun p => ?_
  rw [cmb_mem ⟨h.2, h.1⟩, cmb_mem h]
  by_cases h1 : p ∈ a <;> by_cases h2 : p ∈ b <;> simp [h1, h2]
theorem cmb_count {a b : List Pr} (h : okP a ∧ okP b) : (cmb true true true a b).length + (cmb false true false a b).length = a.length + b.length := by
  rw [cmb, cmb, if_pos h, if_pos h]
  exact comb_count a b
theorem cmb_meet_le {a b : List Pr} (h : okP a ∧ okP b) : (cmb false true false a b).length ≤ a.length := by
  rw [cmb, if_pos h]
  have hsub : ∀ (a b : List Pr), (comb false true false a b).length ≤ a.length := by
    intro a b
    have h1 := comb_count a b
    have h2 : b.length ≤ (comb true true true a b).length := by
      have : ∀ a b : List Pr, b.length ≤ (tog a b).length := by
        intro a b
        fun_induction tog a b <;> simp_all <;> omega
      have e : comb true true true a b = (tog a b).map (·.1) := by
        unfold comb keepP
        rw [List.filter_eq_self.2 (fun x _ => by simp [keepF])]
      rw [e, List.length_map]
      exact this a b
    omega
  exact hsub a b
theorem ck2_yes {a b : List Pr} (h : okP a ∧ okP b) : ck2 a b = 0 := if_pos h
theorem ck2_no {a b : List Pr} (h : ¬ (okP a ∧ okP b)) : ck2 a b = 130 := if_neg h
theorem cmb_no {a b : List Pr} (h : ¬ (okP a ∧ okP b)) (k0 k1 k2 : Bool) : cmb k0 k1 k2 a b = [] := if_neg h
theorem hasP_of {l : List Pr} (h : okP l) (p : Pr) : hasP l p = decide (p ∈ l) := by
  unfold hasP
  rw [decide_eq_decide]
  exact ⟨fun h => h.2, fun k => ⟨h, k⟩⟩
theorem has_is (v : Value) (l : List Pr) (w : World) (hs : SegP w v l) (p1 p2 : Int) (t : Bool) (ht : hasP l (p1, p2) = t) :
    Calls Try.prog 45 #[v, PV p1 p2] w fun e w' => e = .returned (.bool t) ∧ Gr w w' := ht ▸ has_any v l w hs p1 p2
end Go.Proofs.Ytcapmhmlipmciaa

