/- Long division of a row of digits by ten, the greatest digit first: plain lists; no program is named here. -/
import Derived.Test.YtfknocgmobddmaaG0
namespace Go.Proofs.Kit
/-- Where the long division of l by ten stands when the digits from place i on are divided: what is left over, and the row that is being written. -/
structure Dv10 (l : List Int) (i : Nat) (r : Int) (next : List Int) : Prop where
  le : i ≤ l.length
  left : r = dv (l.drop i) % 10
  row : ∃ q, next = l.take i ++ q ∧ q.length = l.length - i ∧ dv q = dv (l.drop i) / 10 ∧ Dig q
theorem Dv10.start (l : List Int) : Dv10 l l.length 0 l := ⟨Nat.le_refl _, by simp [dv], [], by simp, by simp, by simp [dv], fun x hx => by simp at hx⟩
theorem Dv10.len {l : List Int} {i : Nat} {r : Int} {next : List Int} (h : Dv10 l i r next) : next.length = l.length := by
  obtain ⟨q, rfl, h2, _⟩ := h.row
  have := h.le
  simp
  omega
theorem Dv10.bd {l : List Int} {i : Nat} {r : Int} {next : List Int} (h : Dv10 l i r next) : 0 ≤ r ∧ r < 10 := by
  have := h.left
  omega
theorem Dv10.num {l : List Int} {i : Nat} {r : Int} {next : List Int} (h : Dv10 l (i + 1) r next) (hd : Dig l) : ∃ hi : i < l.length, 0 ≤ r * 65536 + l[i] ∧ r * 65536 + l[i] < 655360 := by
  have hi : i < l.length := h.le
  have := hd l[i] (List.getElem_mem hi)
  have := h.bd
  exact ⟨hi, by omega, by omega⟩
theorem Dv10.step {l : List Int} {i : Nat} {r : Int} {next : List Int} (h : Dv10 l (i + 1) r next) (hd : Dig l) (hi : i < l.length) : Dv10 l i ((r * 65536 + l[i]) % 10) (next.set i ((r * 65536 + l[i]) / 10)) := by
  obtain ⟨q, h1, h2, h3, h4⟩ := h.row
  have hl := h.left
  have hx := hd l[i] (List.getElem_mem hi)
  have hdr := dv_drop hi
  have hb := h.bd
  obtain ⟨D, hD⟩ : ∃ D, D = dv (l.drop (i + 1)) := ⟨_, rfl⟩
  rw [← hD] at hl h3 hdr
  refine ⟨by omega, by rw [hdr]; omega, ((r * 65536 + l[i]) / 10) :: q, ?_, by simp; omega, ?_, ?_⟩
  · rw [h1, List.take_succ_eq_append_getElem hi, List.append_assoc, List.set_append_right _ _ (by rw [List.length_take]; omega)]
    have e : i - (l.take i).length = 0 := by rw [List.length_take]; omega
    rw [e]
    rfl
  · rw [dv, h3, hdr]
    omega
  · intro x hx'
    rcases List.mem_cons.1 hx' with rfl | hx'
    · omega
    · exact h4 x hx'
theorem Dv10.stop {l : List Int} {r : Int} {next : List Int} (h : Dv10 l 0 r next) : r = dv l % 10 ∧ dv next = dv l / 10 ∧ Dig next := by
  obtain ⟨q, h1, _, h3, h4⟩ := h.row
  have h2 := h.left
  simp only [List.drop_zero, List.take_zero, List.nil_append] at h1 h2 h3
  subst h1
  exact ⟨h2, h3, h4⟩
end Go.Proofs.Kit
