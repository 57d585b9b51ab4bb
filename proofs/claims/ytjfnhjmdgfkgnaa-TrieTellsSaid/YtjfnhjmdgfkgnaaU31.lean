/- Keys and paths, as the reference tells them. No program is named here. -/
import Derived.Test.YtjfnhjmdgfkgnaaU11
import Derived.Test.YtjfnhjmdgfkgnaaU15
import Derived.Test.YtjfnhjmdgfkgnaaU30
namespace Go.Proofs.Ytjfnhjmdgfkgnaa
open Go.RowKit Go.Proofs.Kit
/-- The keys under a path, as the reference has them. -/
def zkP (bs : List Br) (lv : List Int) : List Int → List Int
  | [] => bs.map (·.1)
  | [a] => zk1 bs lv a
  | _ => []
def ts0 : Pr → Bool := fun _ => true
def ts1 (a : Int) : Pr → Bool := fun x => decide (x.1 = a)
def ts2 (a b : Int) : Pr → Bool := fun x => decide (x.1 = a ∧ x.2 = b)
/-- Is there such a path, as the reference has it? -/
def zhOf (Q : List Pr) : List Int → Bool
  | [] => decide (0 < Q.length)
  | [a] => Q.any fun x => decide (x.1 = a)
  | [a, b] => Q.any fun x => decide (x.1 = a ∧ x.2 = b)
  | _ => false
theorem zk1_leaves (lv : List Int) (a : Int) : ∀ bs : List Br, zk1 bs lv a = leavesAt bs lv a
  | [] => rfl
  | b :: t => by
    rw [leavesAt_cons, ← zk1_leaves lv a t]
    rfl
theorem zkP_row {bs : List Br} {lv : List Int} (P : List Int) : (pathRow bs lv P).getD [] = zkP bs lv P := by
  match P with
  | [] => rfl
  | [a] =>
    simp only [pathRow, zkP]
    split
    · exact (zk1_leaves lv a bs).symm
    · rename_i h
      rw [zk1_leaves, leavesAt_no h]
      rfl
  | [a, b] =>
    simp only [pathRow, zkP]
    split <;> rfl
  | _ :: _ :: _ :: _ => rfl
theorem prs_key {bs : List Br} {lv : List Int} (h : Chd lv.length bs) {a : Int} (ha : a ∈ keysB bs) : ∃ n, (a, n) ∈ prs bs lv := by
  obtain ⟨b, hb, rfl⟩ := List.mem_map.1 ha
  obtain ⟨i, hi, rfl⟩ := List.getElem_of_mem hb
  obtain ⟨h0, h4, h1, h2⟩ := h.br hi
  have hl := lvs_len (lv := lv) (b := bs[i]) (by omega) (by omega) (by omega)
  have : lvs lv bs[i] ≠ [] := by
    intro e
    rw [e] at hl
    simp at hl
    omega
  obtain ⟨n, hn⟩ := List.exists_mem_of_ne_nil _ this
  exact ⟨n, List.mem_flatMap.2 ⟨_, List.getElem_mem hi, List.mem_map.2 ⟨n, hn, rfl⟩⟩⟩
theorem key_prs {bs : List Br} {lv : List Int} {x : Pr} (hx : x ∈ prs bs lv) : x.1 ∈ keysB bs := by
  obtain ⟨b, hb, h⟩ := List.mem_flatMap.1 hx
  obtain ⟨n, _, rfl⟩ := List.mem_map.1 h
  exact List.mem_map.2 ⟨b, hb, rfl⟩
theorem zhOf_row {bs : List Br} {lv : List Int} (h : Chd lv.length bs) (P : List Int) : ((pathRow bs lv P).isSome && decide (0 < bs.length)) = zhOf (prs bs lv) P := by
  have h0 : ∀ a, a ∈ keysB bs → 0 < bs.length := fun a ha => by
    obtain ⟨b, hb, _⟩ := List.mem_map.1 ha
    exact List.length_pos_of_mem hb
  match P with
  | [] =>
    simp only [pathRow, zhOf, Option.isSome_some, Bool.true_and, decide_eq_decide]
    constructor
    · intro hb
      obtain ⟨n, hn⟩ := prs_key h (a := bs[0].1) (List.mem_map.2 ⟨_, List.getElem_mem hb, rfl⟩)
      exact List.length_pos_of_mem hn
    · intro hp
      obtain ⟨x, hx⟩ := List.exists_mem_of_length_pos hp
      exact h0 _ (key_prs hx)
  | [a] =>
    rw [Bool.eq_iff_iff]
    simp only [pathRow, zhOf, Bool.and_eq_true, decide_eq_true_eq, List.any_eq_true]
    constructor
    · rintro ⟨hs, _⟩
      split at hs
      · rename_i ha
        obtain ⟨n, hn⟩ := prs_key h ha
        exact ⟨_, hn, rfl⟩
      · cases hs
    · rintro ⟨x, hx, rfl⟩
      have hk := key_prs hx
      exact ⟨by rw [if_pos hk]; rfl, h0 _ hk⟩
  | [a, b] =>
    rw [Bool.eq_iff_iff]
    simp only [pathRow, zhOf, Bool.and_eq_true, decide_eq_true_eq, List.any_eq_true]
    constructor
    · rintro ⟨hs, _⟩
      split at hs
      · rename_i ha
        obtain ⟨_, hb⟩ := ha
        obtain ⟨x, hx, e⟩ := List.mem_map.1 hb
        simp only [List.mem_filter, decide_eq_true_eq] at hx
        exact ⟨x, hx.1, hx.2, e⟩
      · cases hs
    · rintro ⟨x, hx, rfl, rfl⟩
      have hk := key_prs hx
      exact ⟨by rw [if_pos ⟨hk, List.mem_map.2 ⟨x, List.mem_filter.2 ⟨hx, by simp⟩, rfl⟩⟩]; rfl, h0 _ hk⟩
  | _ :: _ :: _ :: _ => rfl
theorem chd_nil : Chd 0 [] := (by decide)
end Go.Proofs.Ytjfnhjmdgfkgnaa

