/- What the sort keeps, round by round: plain facts. -/
import Derived.Test.YtbcloahekffjdaaH18
namespace Go.Proofs.Kit
/-- A part rises. -/
def Srt (a b : Nat) (d : Array Int) : Prop := ∀ i j, a ≤ i → i < j → j < b → ¬ d[j]! < d[i]!
theorem srt_of {a b : Nat} {d : Array Int} (h : Sort.SortedIn ltI a b d) : Srt a b d := by
  intro i j h1 h2 h3 h4
  have := h i j h1 h2 h3
  rw [ltI_t h4] at this
  cases this
/-- Nothing within is less than what stands ahead. -/
def Bel (a b : Nat) (d : Array Int) : Prop := a = 0 ∨ ∀ i, a ≤ i → i < b → ¬ d[i]! < d[a - 1]!
theorem Bel.lib {a b : Nat} {d : Array Int} (h : Bel a b d) : Sort.Below ltI a b d := by
  rcases h with h | h
  · exact .inl h
  · exact .inr fun i h1 h2 => ltI_f (h i h1 h2)
theorem Bel.perm {a b : Nat} {d d' : Array Int} (h : Bel a b d) (hp : Sort.PermIn a b d d') (hb : b ≤ d.size) : Bel a b d' := by
  rcases h with h | h
  · exact .inl h
  · by_cases h0 : a = 0
    · exact .inl h0
    · right
      rw [hp.2.1 (a - 1) (by omega)]
      exact Sort.permIn_all d d' a b (fun x => ¬ x < d[a - 1]!) hb hp h
/-- What is known at a round of the sort of [A, E), when [a, b) is left. -/
structure Pq (A E : Nat) (d0 : Array Int) (a b : Nat) (d : Array Int) : Prop where
  perm : Sort.PermIn A E d0 d
  Aa : A ≤ a
  ab : a ≤ b
  bE : b ≤ E
  sz : E ≤ d0.size
  bel : Bel a b d
  fin : ∀ d', Sort.PermIn a b d d' → Srt a b d' → Srt A E d'
section
variable {A E a b m : Nat} {d0 d d' d2 : Array Int}
theorem Pq.size (h : Pq A E d0 a b d) : b ≤ d.size := by rw [h.perm.1]; have := h.sz; have := h.bE; omega
theorem Pq.start (hAE : A ≤ E) (hs : E ≤ d0.size) (hb : Bel A E d0) : Pq A E d0 A E d0 := ⟨Sort.permIn_refl _ _ _, Nat.le_refl _, hAE, Nat.le_refl _, hs, hb, fun _ _ h => h⟩
theorem Pq.whole (h : Pq A E d0 a b d) (hp : Sort.PermIn a b d d') : Sort.PermIn A E d0 d' :=
  Sort.permIn_trans _ _ _ _ _ h.perm (Sort.permIn_mono _ _ _ _ _ _ h.Aa h.bE (by rw [h.perm.1]; exact h.sz) hp)
theorem Pq.perm' (h : Pq A E d0 a b d) (hp : Sort.PermIn a b d d') : Pq A E d0 a b d' :=
  ⟨h.whole hp, h.Aa, h.ab, h.bE, h.sz, h.bel.perm hp h.size, fun d2 h1 h2 => h.fin d2 (Sort.permIn_trans _ _ _ _ _ hp h1) h2⟩
theorem Pq.done (h : Pq A E d0 a b d) (hp : Sort.PermIn a b d d') (hs : Srt a b d') : Sort.PermIn A E d0 d' ∧ Srt A E d' := ⟨h.whole hp, h.fin d' hp hs⟩
/-- Behind those that are equal. -/
theorem Pq.eq {pv : Nat} (h : Pq A E d0 a b d) (ha : 0 < a) (hc : ¬ d[a - 1]! < d[pv]!) (hm : a < m) (hmb : m ≤ b) (hp : Sort.PermIn a b d d') (hl : ∀ t, a ≤ t → t < m → ¬ d[pv]! < d'[t]!) (hg : ∀ t, m ≤ t → t < b → d[pv]! < d'[t]!) : Pq A E d0 m b d' := by
  have hbel := h.bel.resolve_left (by omega)
  have hmin : ∀ i, a ≤ i → i < b → ¬ d'[i]! < d[pv]! := Sort.permIn_all d d' a b (fun x => ¬ x < d[pv]!) h.size hp (fun i h3 h4 => by have := hbel i h3 h4; omega)
  refine ⟨h.whole hp, by have := h.Aa; omega, hmb, h.bE, h.sz, .inr fun i h3 h4 => by have := hg i h3 h4; have := hl (m - 1) (by omega) (by omega); omega, fun d2 h3 h4 => h.fin d2 ?_ ?_⟩
  · exact Sort.permIn_trans _ _ _ _ _ hp (Sort.permIn_mono _ _ _ _ _ _ (by omega) (Nat.le_refl _) (by rw [hp.1]; exact h.size) h3)
  · have hg2 : ∀ t, m ≤ t → t < b → d[pv]! < d2[t]! := Sort.permIn_all d' d2 m b (fun x => d[pv]! < x) (by rw [hp.1]; exact h.size) h3 hg
    intro i j h5 h6 h7
    by_cases hj : j < m
    · rw [h3.2.1 i (by omega), h3.2.1 j (by omega)]
      have := hmin j (by omega) h7
      have := hl i h5 (by omega)
      omega
    · by_cases hi : i < m
      · rw [h3.2.1 i (by omega)]
        have := hg2 j (by omega) h7
        have := hl i h5 hi
        omega
      · exact h4 i j (by omega) h6 h7
/-- Parted at m: what is asked of either side, and what is left once it is sorted. -/
theorem Pq.bel_left (h : Pq A E d0 a b d) (hm : m < b) : Bel a m d := by
  rcases h.bel with e | e
  · exact .inl e
  · exact .inr fun i h1 h2 => e i h1 (by omega)
theorem bel_right {p : Int} (hpm : d[m]! = p) (hg : ∀ t, m < t → t < b → ¬ d[t]! < p) : Bel (m + 1) b d := .inr fun i h1 h2 => by
  rw [Nat.add_sub_cancel, hpm]
  exact hg i (by omega) h2
theorem Pq.left {p : Int} (h : Pq A E d0 a b d) (ham : a ≤ m) (hmb : m < b) (hpm : d[m]! = p) (hl : ∀ t, a ≤ t → t < m → d[t]! < p) (hg : ∀ t, m < t → t < b → ¬ d[t]! < p) (hp : Sort.PermIn a m d d2) (hs : Srt a m d2) : Pq A E d0 (m + 1) b d2 := by
  have hsz := h.size
  have hp' : Sort.PermIn a b d d2 := Sort.permIn_mono _ _ _ _ _ _ (Nat.le_refl _) (by omega) hsz hp
  have hl2 : ∀ t, a ≤ t → t < m → d2[t]! < p := Sort.permIn_all d d2 a m (fun x => x < p) (by omega) hp hl
  have hpm2 : d2[m]! = p := by rw [hp.2.1 m (by omega), hpm]
  have hg2 : ∀ t, m < t → t < b → ¬ d2[t]! < p := fun t h1 h2 => by rw [hp.2.1 t (by omega)]; exact hg t h1 h2
  refine ⟨h.whole hp', by have := h.Aa; omega, by omega, h.bE, h.sz, bel_right hpm2 hg2, fun d3 h3 h4 => h.fin d3 ?_ ?_⟩
  · exact Sort.permIn_trans _ _ _ _ _ hp' (Sort.permIn_mono _ _ _ _ _ _ (by omega) (Nat.le_refl _) (by rw [hp.1]; exact hsz) h3)
  · have hg3 : ∀ t, m + 1 ≤ t → t < b → ¬ d3[t]! < p := Sort.permIn_all d2 d3 (m + 1) b (fun x => ¬ x < p) (by rw [hp.1]; exact hsz) h3 (fun t h5 h6 => hg2 t (by omega) h6)
    intro i j h5 h6 h7
    by_cases hj : j < m + 1
    · rw [h3.2.1 i (by omega), h3.2.1 j (by omega)]
      by_cases e : j = m
      · subst e; rw [hpm2]; have := hl2 i h5 h6; omega
      · exact hs i j h5 h6 (by omega)
    · by_cases hi : i < m + 1
      · rw [h3.2.1 i (by omega)]
        have := hg3 j (by omega) h7
        by_cases e : i = m
        · subst e; rw [hpm2]; omega
        · have := hl2 i h5 (by omega); omega
      · exact h4 i j (by omega) h6 h7
theorem Pq.right {p : Int} (h : Pq A E d0 a b d) (ham : a ≤ m) (hmb : m < b) (hpm : d[m]! = p) (hl : ∀ t, a ≤ t → t < m → d[t]! < p) (hg : ∀ t, m < t → t < b → ¬ d[t]! < p) (hp : Sort.PermIn (m + 1) b d d2) (hs : Srt (m + 1) b d2) : Pq A E d0 a m d2 := by
  have hsz := h.size
  have hp' : Sort.PermIn a b d d2 := Sort.permIn_mono _ _ _ _ _ _ (by omega) (Nat.le_refl _) hsz hp
  have hg2 : ∀ t, m + 1 ≤ t → t < b → ¬ d2[t]! < p := Sort.permIn_all d d2 (m + 1) b (fun x => ¬ x < p) hsz hp (fun t h5 h6 => hg t (by omega) h6)
  have hpm2 : d2[m]! = p := by rw [hp.2.1 m (by omega), hpm]
  have hl2 : ∀ t, a ≤ t → t < m → d2[t]! < p := fun t h1 h2 => by rw [hp.2.1 t (by omega)]; exact hl t h1 h2
  have hbel : Bel a m d2 := by
    rcases h.bel with e | e
    · exact .inl e
    · by_cases h0 : a = 0
      · exact .inl h0
      · refine .inr fun i h1 h2 => ?_
        rw [hp.2.1 i (by omega), hp.2.1 (a - 1) (by omega)]
        exact e i h1 (by omega)
  refine ⟨h.whole hp', h.Aa, ham, by have := h.bE; omega, h.sz, hbel, fun d3 h3 h4 => h.fin d3 ?_ ?_⟩
  · exact Sort.permIn_trans _ _ _ _ _ hp' (Sort.permIn_mono _ _ _ _ _ _ (Nat.le_refl _) (by omega) (by rw [hp.1]; exact hsz) h3)
  · have hl3 : ∀ t, a ≤ t → t < m → d3[t]! < p := Sort.permIn_all d2 d3 a m (fun x => x < p) (by rw [hp.1]; omega) h3 hl2
    intro i j h5 h6 h7
    by_cases hi : i < m
    · by_cases hj : j < m
      · exact h4 i j h5 h6 hj
      · rw [h3.2.1 j (by omega)]
        have := hl3 i h5 hi
        by_cases e : j = m
        · subst e; rw [hpm2]; omega
        · have := hg2 j (by omega) h7; omega
    · rw [h3.2.1 i (by omega), h3.2.1 j (by omega)]
      by_cases e : i = m
      · subst e; rw [hpm2]; exact hg2 j (by omega) h7
      · exact hs i j (by omega) h6 h7
end
end Go.Proofs.Kit
