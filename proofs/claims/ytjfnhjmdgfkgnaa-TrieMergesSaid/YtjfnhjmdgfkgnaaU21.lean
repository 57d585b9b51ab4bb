/- TrieBack: its walk. -/
import Derived.Test.YtjfnhjmdgfkgnaaU20
namespace Go.Proofs.Kit
open Go.RowKit
theorem leaves_mem {bs : List Br} {lv : List Int} {L : List Pr} (h : Tri bs lv L) {a b : Int} : b ∈ leavesAt bs lv a ↔ (a, b) ∈ L := by
  unfold leavesAt
  rw [h.prs, List.mem_map]
  constructor
  · rintro ⟨x, hx, rfl⟩
    obtain ⟨h1, h2⟩ := List.mem_filter.1 hx
    have : x.1 = a := by simpa using h2
    subst this
    exact h1
  · intro hx
    exact ⟨(a, b), List.mem_filter.2 ⟨hx, by simp⟩, rfl⟩
theorem keys_mem {bs : List Br} {lv : List Int} {L : List Pr} (h : Tri bs lv L) {a : Int} : a ∈ keysB bs ↔ ∃ x ∈ L, x.1 = a := by
  have : keysB bs = dd (L.map (·.1)) := h.keys
  rw [this, dd_mem, List.mem_map]
theorem row2 {bs : List Br} {lv : List Int} {L : List Pr} (h : Tri bs lv L) (hok : ok7 bs lv) (a b : Int) : (rowOf bs lv [a, b]).isSome = decide ((a, b) ∈ L) := by
  unfold rowOf
  rw [if_pos hok, pathRow]
  by_cases hm : (a, b) ∈ L
  · rw [if_pos ⟨(keys_mem h).2 ⟨_, hm, rfl⟩, (leaves_mem h).2 hm⟩, decide_eq_true hm]; rfl
  · rw [if_neg (fun k => hm ((leaves_mem h).1 k.2)), decide_eq_false hm]; rfl
theorem row1 {bs : List Br} {lv : List Int} {L : List Pr} (h : Tri bs lv L) (hok : ok7 bs lv) (a : Int) : (rowOf bs lv [a]).getD [] = (L.filter fun x => decide (x.1 = a)).map (·.2) := by
  unfold rowOf
  rw [if_pos hok, pathRow]
  have e : leavesAt bs lv a = (L.filter fun x => decide (x.1 = a)).map (·.2) := by unfold leavesAt; rw [h.prs]
  by_cases hm : a ∈ keysB bs
  · rw [if_pos hm, ← e]; rfl
  · rw [if_neg hm, ← e, leavesAt_no hm]; rfl
theorem row0 {bs : List Br} {lv : List Int} {L : List Pr} (h : Tri bs lv L) (hok : ok7 bs lv) : (rowOf bs lv []).getD [] = dd (L.map (·.1)) := by
  unfold rowOf
  rw [if_pos hok, pathRow, ← h.keys]
  rfl
theorem bof_pos {L : List Pr} {p : Pr} (h : p ∈ L) : 0 < (bof L).length := by
  have h1 : p.1 ∈ dd (L.map (·.1)) := (dd_mem _ _).2 (List.mem_map.2 ⟨p, h, rfl⟩)
  rw [bof_len]
  exact List.length_pos_of_mem h1
end Go.Proofs.Kit

