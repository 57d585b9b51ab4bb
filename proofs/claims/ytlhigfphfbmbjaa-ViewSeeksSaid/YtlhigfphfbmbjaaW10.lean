/- tiers.inOrder: the pairs of which just that is said, in order. -/
import Derived.Test.YtlhigfphfbmbjaaW9
import Derived.Test.YtlhigfphfbmbjaaN7
namespace Go.Proofs.Ytlhigfphfbmbjaa
open Go.RowKit Go.Proofs.Kit Go.Shelf Go.Maps
set_option maxRecDepth 100000 in
set_option maxHeartbeats 1000000 in
theorem asOneA_any (x : Int) (w : World) : Calls Try.prog 89 #[.int .i8 x] w fun e w' => e = .returned (.bool (x == 1)) ∧ w' = w := by
  go_enter Try.func89, Try.ntmps89
  go_wp2
  go_ret
  exact ⟨rfl, rfl⟩
set_option maxRecDepth 100000 in
set_option maxHeartbeats 1000000 in
theorem asOneB_any (x : Int) (bx : Nat) (o : Bool) (w : World) (hb : Blk w bx #[.bool o] 4) : Calls Try.prog 90 #[.int .i8 x, .pointer (some ⟨bx, 0, none⟩)] w fun e w' => e = .returned (.bool (x == 2 && !o)) ∧ w' = w := by
  have c0 := hb.cell 0
  have l0 := hb.lt
  simp only [List.getElem?_toArray, List.getElem?_cons_zero] at c0
  clear hb
  go_enter Try.func90, Try.ntmps90
  by_cases h : x = 2
  · subst h
    go_wp2
    go_ret
    exact ⟨by simp, rfl⟩
  · have t1 : (x == 2) = false := by simpa using h
    go_wp2
    go_ret
    exact ⟨by simp [t1], rfl⟩
theorem OwnP.ne_iter {t k : TypeId} {B b r n cnt : Nat} {w : World} {v : Value} {l : List Pr} {R : Value → Option (DataW Unit × List MemPlace)} {D : DataW Unit} {left : Lit → Bool} (h : OwnP t B w v l) (hr : w.ranges Try.prog k R b r n D left cnt) : some b ≠ v.ownBlock ∧ some r ≠ v.ownBlock := by
  obtain ⟨es, clock, since, seen, c0, hb, _, _, _, hi, _⟩ := hr
  rcases h.2.2 with ⟨rfl, _⟩ | ⟨g, cap, cur, rfl, _, hg, _⟩
  · simp [Value.ownBlock]
  · simp only [Value.ownBlock]
    constructor
    · intro e
      injection e with e
      subst e
      rw [hb] at hg
      cases hg
    · intro e
      injection e with e
      subst e
      rw [hi] at hg
      cases hg
theorem map_size {w : World} {b n : Nat} {k : TypeId} {R : Value → Option (DataW Unit × List MemPlace)} {D : DataW Unit} (h : w.ownsMap Try.prog k R b n D) : Maps.size D ≤ n := by
  obtain ⟨es, clock, hb, _, hn, rfl⟩ := h
  simp only [Maps.size, length_sorted, List.length_map, Array.length_toList]
  exact hn
/-- What has been gathered, by what is left. -/
structure Acc (f : Pr → Int) (keep : Int → Bool) (left : Lit → Bool) (acc : List Pr) : Prop where
  nd : acc.Nodup
  w : ∀ p ∈ acc, Wp p
  mem : ∀ p, Wp p → (p ∈ acc ↔ keep (f p) = true ∧ left (kl p) = false)
theorem Acc.step {f : Pr → Int} {keep : Int → Bool} {left : Lit → Bool} {acc : List Pr} {p : Pr} (h : Acc f keep left acc) (hp : Wp p) (hl : left (kl p) = true) :
    Acc f keep (fun z => left z && !z.sameKey (kl p)) (if keep (f p) then acc ++ [p] else acc) := by
  have hno : p ∉ acc := fun c => by have := ((h.mem p hp).1 c).2; rw [hl] at this; cases this
  have hlq : ∀ q, Wp q → ((left (kl q) && !(kl q).sameKey (kl p)) = false ↔ left (kl q) = false ∨ q = p) := by
    intro q hq
    by_cases e : q = p
    · subst e
      simp [WideAt.sameKey_self (key_lit hq)]
    · have : (kl q).sameKey (kl p) = false := Maps.sameKey_ne (fun c => e (kl_inj hq hp c))
      simp [this, e]
  by_cases hk : keep (f p) = true
  · rw [if_pos hk]
    refine ⟨?_, ?_, ?_⟩
    · rw [List.nodup_append]
      refine ⟨h.nd, by simp, fun a ha b hb => ?_⟩
      simp at hb
      subst hb
      rintro rfl
      exact hno ha
    · intro q hq
      rcases List.mem_append.1 hq with hq | hq
      · exact h.w q hq
      · simp at hq
        rw [hq]
        exact hp
    · intro q hq
      rw [List.mem_append, h.mem q hq, hlq q hq]
      simp only [List.mem_singleton]
      constructor
      · rintro (⟨a, b⟩ | rfl)
        · exact ⟨a, .inl b⟩
        · exact ⟨hk, .inr rfl⟩
      · rintro ⟨a, b | b⟩
        · exact .inl ⟨a, b⟩
        · exact .inr b
  · rw [if_neg hk]
    refine ⟨h.nd, h.w, fun q hq => ?_⟩
    rw [h.mem q hq, hlq q hq]
    constructor
    · rintro ⟨a, b⟩
      exact ⟨a, .inl b⟩
    · rintro ⟨a, b | b⟩
      · exact ⟨a, b⟩
      · subst b
        exact (hk a).elim
theorem Acc.run {f : Pr → Int} {keep : Int → Bool} {left : Lit → Bool} {acc l : List Pr} (h : Acc f keep left acc) (hl : ∀ z, left z = false) (hp : l.Perm acc) (ha : Asc l) : Run l ∧ ∀ p, p ∈ l ↔ Wp p ∧ keep (f p) = true := by
  refine ⟨?_, fun p => ?_⟩
  · have hn : l.Nodup := hp.nodup_iff.2 h.nd
    refine (ha.and hn).imp ?_
    rintro a b ⟨h1, h2⟩
    rcases lt2_tri a b with c | c | c
    · exact c
    · exact (h2 c).elim
    · exact (h1 c).elim
  · rw [hp.mem_iff]
    constructor
    · intro q
      exact ⟨h.w p q, ((h.mem p (h.w p q)).1 q).1⟩
    · rintro ⟨a, b⟩
      exact (h.mem p a).2 ⟨b, hl _⟩
end Go.Proofs.Ytlhigfphfbmbjaa

