/- A trie's part between two keys: plain facts, and trie.part. -/
import Derived.Test.YtjfnhjmdgfkgnaaU11
import Derived.Test.YtjfnhjmdgfkgnaaU14
import Derived.Deep.RegionLaw
import Derived.Maps.AppendAt
namespace Go.Proofs.Kit
open Go.RowKit
theorem run_cut3 {l : List Pr} (h : Run l) {f t : Int} (hft : f ≤ t) : l = l.filter (fun x => decide (x.1 < f)) ++ (l.filter (fun x => decide (f ≤ x.1) && decide (x.1 < t)) ++ l.filter (fun x => decide (t ≤ x.1))) := by
  refine run_ext h (run_app (filt_run h _) (run_app (filt_run h _) (filt_run h _) ?_) ?_) ?_
  · intro x hx y hy
    simp only [List.mem_filter, decide_eq_true_eq, Bool.and_eq_true] at hx hy
    unfold lt2; omega
  · intro x hx y hy
    simp only [List.mem_append, List.mem_filter, decide_eq_true_eq, Bool.and_eq_true] at hx hy
    unfold lt2; omega
  · intro p
    simp only [List.mem_append, List.mem_filter, decide_eq_true_eq, Bool.and_eq_true]
    constructor
    · intro hp
      by_cases c : p.1 < f
      · exact .inl ⟨hp, c⟩
      · by_cases c2 : p.1 < t
        · exact .inr (.inl ⟨hp, by omega, c2⟩)
        · exact .inr (.inr ⟨hp, by omega⟩)
    · rintro (h | h | h) <;> exact h.1
theorem bof_key_mem {l : List Pr} {b : Br} (h : b ∈ bof l) : ∃ x ∈ l, x.1 = b.1 := by
  have : b.1 ∈ (bof l).map (·.1) := List.mem_map.2 ⟨b, h, rfl⟩
  rw [bof_keys, dd_mem] at this
  obtain ⟨x, hx, e⟩ := List.mem_map.1 this
  exact ⟨x, hx, e⟩
theorem countP_all {l : List Int} {p : Int → Bool} (h : ∀ x ∈ l, p x = true) : l.countP p = l.length := List.countP_eq_length.2 h
theorem countP_no {l : List Int} {p : Int → Bool} (h : ∀ x ∈ l, ¬ p x = true) : l.countP p = 0 := List.countP_eq_zero.2 h
/-- What a cut comes to. -/
structure CutR (bs : List Br) (lv : List Int) (T : List Pr) (i j : Nat) : Prop where
  le : i ≤ j
  lm : j ≤ bs.length
  no : i = j → T = []
  yes : ∀ (_ : i < j) (_ : j ≤ bs.length), ∃ s t : Nat, (bs[i]'(by omega)).2.1 = (s : Int) ∧ (bs[j - 1]'(by omega)).2.2 = (t : Int) ∧ s < t ∧ t ≤ lv.length ∧
    ((bs.drop i).take (j - i)).map (fun b => (b.1, b.2.1 - (s : Int), b.2.2 - (s : Int))) = bof T ∧ (lv.drop s).take (t - s) = T.map (·.2) ∧ ∀ b ∈ (bs.drop i).take (j - i), (s : Int) ≤ b.2.1 ∧ b.2.1 ≤ b.2.2 ∧ b.2.2 ≤ 1048576
theorem cut_res {bs : List Br} {lv : List Int} {L : List Pr} (hT : Tri bs lv L) {f t : Int} (hft : f ≤ t) :
    CutR bs lv (L.filter fun x => decide (f ≤ x.1) && decide (x.1 < t)) (plcU (keysB bs) f) (plcU (keysB bs) t) := by
  have e := run_cut3 hT.run hft
  obtain ⟨T1, h1⟩ : ∃ T1, T1 = L.filter (fun x => decide (x.1 < f)) := ⟨_, rfl⟩
  obtain ⟨T2, h2⟩ : ∃ T2, T2 = L.filter (fun x => decide (f ≤ x.1) && decide (x.1 < t)) := ⟨_, rfl⟩
  obtain ⟨T3, h3⟩ : ∃ T3, T3 = L.filter (fun x => decide (t ≤ x.1)) := ⟨_, rfl⟩
  rw [← h1, ← h2, ← h3] at e
  rw [← h2]
  have k1 : ∀ x ∈ T1, x.1 < f := by intro x hx; rw [h1] at hx; simpa using (List.mem_filter.1 hx).2
  have k2 : ∀ x ∈ T2, f ≤ x.1 ∧ x.1 < t := by intro x hx; rw [h2] at hx; simpa using (List.mem_filter.1 hx).2
  have k3 : ∀ x ∈ T3, t ≤ x.1 := by intro x hx; rw [h3] at hx; simpa using (List.mem_filter.1 hx).2
  have r2 : Run T2 := by rw [h2]; exact filt_run hT.run _
  clear h1 h2 h3
  have hb : bs = bof T1 ++ (shf T1.length (bof T2) ++ shf T1.length (shf T2.length (bof T3))) := by
    rw [← hT.bof, e, bof_app (by
      intro x hx y hy
      rcases List.mem_append.1 hy with hy | hy
      · have := k1 x hx; have := k2 y hy; omega
      · have := k1 x hx; have := k3 y hy; omega), bof_app (by intro x hx y hy; have := k2 x hx; have := k3 y hy; omega)]
    simp [shf]
  have hlv : lv = T1.map (·.2) ++ (T2.map (·.2) ++ T3.map (·.2)) := by rw [← hT.snd, e]; simp
  have kb1 : ∀ k ∈ keysB (bof T1), k < f := by
    intro k hk
    obtain ⟨b, hb, rfl⟩ := List.mem_map.1 hk
    obtain ⟨x, hx, e⟩ := bof_key_mem hb
    rw [← e]; exact k1 x hx
  have kb2 : ∀ k ∈ keysB (shf T1.length (bof T2)), f ≤ k ∧ k < t := by
    intro k hk
    obtain ⟨b, hb, rfl⟩ := List.mem_map.1 hk
    obtain ⟨c, hc, rfl⟩ := List.mem_map.1 hb
    obtain ⟨x, hx, e⟩ := bof_key_mem hc
    simp only
    rw [← e]; exact k2 x hx
  have kb3 : ∀ k ∈ keysB (shf T1.length (shf T2.length (bof T3))), t ≤ k := by
    intro k hk
    obtain ⟨b, hb, rfl⟩ := List.mem_map.1 hk
    obtain ⟨c, hc, rfl⟩ := List.mem_map.1 hb
    obtain ⟨d, hd, rfl⟩ := List.mem_map.1 hc
    obtain ⟨x, hx, e⟩ := bof_key_mem hd
    simp only
    rw [← e]; exact k3 x hx
  have hk : keysB bs = keysB (bof T1) ++ (keysB (shf T1.length (bof T2)) ++ keysB (shf T1.length (shf T2.length (bof T3)))) := by
    conv => lhs; rw [hb]
    simp [keysB]
  have n1 : (keysB (bof T1)).length = (bof T1).length := by simp [keysB]
  have n2 : (keysB (shf T1.length (bof T2))).length = (bof T2).length := by simp [keysB, shf]
  have pf : plcU (keysB bs) f = (bof T1).length := by
    unfold plcU
    rw [hk, List.countP_append, List.countP_append, countP_all (fun x hx => by simpa using kb1 x hx), countP_no (fun x hx => by have := kb2 x hx; simp; omega), countP_no (fun x hx => by have := kb3 x hx; simp; omega)]
    omega
  have pt : plcU (keysB bs) t = (bof T1).length + (bof T2).length := by
    unfold plcU
    rw [hk, List.countP_append, List.countP_append, countP_all (fun x hx => by have := kb1 x hx; simp; omega), countP_all (fun x hx => by have := kb2 x hx; simp; omega), countP_no (fun x hx => by have := kb3 x hx; simp; omega)]
    omega
  obtain ⟨c1, c2, c3⟩ := of_run _ T2 rfl r2
  rw [List.length_map] at c1
  have hlen : bs.length = (bof T1).length + ((bof T2).length + (bof T3).length) := by
    conv => lhs; rw [hb]
    simp [shf]
  have hL : T1.length + (T2.length + T3.length) = L.length := by rw [e]; simp
  rw [pf, pt]
  refine ⟨by omega, by omega, fun h => ?_, fun h1 h2 => ?_⟩
  · have h0 : (bof T2).length = 0 := by omega
    have := c1.2
    rw [h0] at this
    simp only [endAt] at this
    exact List.length_eq_zero_iff.1 (by omega)
  · have hpos : 0 < (bof T2).length := by omega
    have hd : (bs.drop (bof T1).length).take ((bof T1).length + (bof T2).length - (bof T1).length) = shf T1.length (bof T2) := by
      rw [show (bof T1).length + (bof T2).length - (bof T1).length = (shf T1.length (bof T2)).length by simp [shf]]
      conv => lhs; rw [hb]
      rw [List.drop_left, List.take_left]
    have g : ∀ i (hi : i < (bof T2).length), bs[(bof T1).length + i]'(by omega) = ((bof T2)[i].1, (bof T2)[i].2.1 + (T1.length : Int), (bof T2)[i].2.2 + (T1.length : Int)) := by
      intro i hi
      have : bs[(bof T1).length + i]? = some ((bof T2)[i].1, (bof T2)[i].2.1 + (T1.length : Int), (bof T2)[i].2.2 + (T1.length : Int)) := by
        conv => lhs; rw [hb]
        rw [List.getElem?_append_right (by omega), List.getElem?_append_left (by simp [shf]; omega)]
        simp [shf, hi]
      rw [List.getElem?_eq_getElem (by omega)] at this
      exact Option.some.inj this
    have b0 := c1.br hpos
    have bl := c1.br (i := (bof T2).length - 1) (by omega)
    have e0 : (bof T2)[0].2.1 = 0 := by rw [b0.2.1]; rfl
    have el : (bof T2)[(bof T2).length - 1].2.2 = (T2.length : Int) := by
      have := c1.2
      obtain ⟨k, hk⟩ : ∃ k, (bof T2).length = k + 1 := ⟨(bof T2).length - 1, by omega⟩
      rw [hk] at this
      simp only [endAt] at this
      rw [getD_of (by omega)] at this
      rw [← this]
      simp only [hk, Nat.add_sub_cancel]
    refine ⟨T1.length, T1.length + T2.length, ?_, ?_, ?_, ?_, ?_, ?_, ?_⟩
    · have := g 0 hpos
      simp only [Nat.add_zero] at this
      rw [this]
      simp only
      omega
    · have := g ((bof T2).length - 1) (by omega)
      have e9 : (bof T1).length + ((bof T2).length - 1) = (bof T1).length + (bof T2).length - 1 := by omega
      simp only [e9] at this
      rw [this]
      simp only
      omega
    · have : 0 < T2.length := by have := bof_le T2; omega
      omega
    · rw [hlv]; simp
    · rw [hd]
      unfold shf
      rw [List.map_map]
      refine (List.map_congr_left fun b _ => ?_).trans (List.map_id _)
      obtain ⟨a, b, c⟩ := b
      simp only [Function.comp, id, Prod.mk.injEq, true_and]
      omega
    · rw [hlv, show T1.length + T2.length - T1.length = (T2.map (·.2)).length by simp, show T1.length = (T1.map (·.2)).length by simp, List.drop_left, List.take_left]
    · rw [hd]
      intro b hb
      obtain ⟨c, hc, rfl⟩ := List.mem_map.1 hb
      obtain ⟨i, hi, rfl⟩ := List.getElem_of_mem hc
      have := c1.br hi
      have := hT.len
      simp only
      omega
end Go.Proofs.Kit

