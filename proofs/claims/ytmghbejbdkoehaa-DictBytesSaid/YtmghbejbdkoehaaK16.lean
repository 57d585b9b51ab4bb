/- What is written is read again, and what is read is written as it stood there: plain lists. -/
import Derived.Test.YtmghbejbdkoehaaK15
import Derived.Test.YtmghbejbdkoehaaMj
import Derived.Test.YtmghbejbdkoehaaMo
namespace Go.Proofs.Ytmghbejbdkoehaa
open Go.RowKit Go.Proofs.Kit

theorem ofB_strB6 (s : ByteArray) : ofB (strB s) = s := by
  cases s with
  | mk a =>
    unfold ofB strB
    congr 1
    apply Array.toList_inj.1
    have e : (fun n : Int => UInt8.ofNat n.toNat) ∘ (fun b : UInt8 => (b.toNat : Int)) = id := by funext b; simp
    simp only [List.map_map, e, List.map_id]
theorem rdTexts_at : ∀ (l : List ByteArray) (bs rest : List Int) (p : Nat), (∀ s ∈ l, s.size ≤ 4000) → bs.drop p = (l.flatMap fun s => bytesText (strB s)) ++ rest → rdTexts bs l.length p = some (l, p + (l.flatMap fun s => bytesText (strB s)).length)
  | [], bs, rest, p, _, _ => by simp [rdTexts]
  | s :: t, bs, rest, p, hz, h => by
    have hs := hz s (by simp)
    rw [List.flatMap_cons, List.append_assoc] at h
    have h1 : bs.drop p = sept (strB s).length ++ (strB s ++ ((t.flatMap fun s => bytesText (strB s)) ++ rest)) := by rw [h, bytesText, List.append_assoc]
    have h2 := rdCounted_at (limit := 4000) h1 (by rw [strB_len]; omega) (by rw [strB_len]; omega)
    have h3 := drop_at h
    have e : p + (sept (strB s).length).length + (strB s).length = p + (bytesText (strB s)).length := by rw [bytesText, List.length_append]; omega
    rw [e] at h2
    rw [List.length_cons, rdTexts_succ_ok h2, rdTexts_at t bs rest _ (fun x hx => hz x (by simp [hx])) h3, ofB_strB6]
    simp only [Option.map_some, List.flatMap_cons, List.length_append, Nat.add_assoc]
theorem rdNames_at {l : List ByteArray} {bs rest : List Int} {p : Nat} (hl : l.length ≤ 128) (hz : ∀ s ∈ l, s.size ≤ 4000) (h : bs.drop p = bytesL l ++ rest) : rdNames bs p = some (l, p + (bytesL l).length) := by
  unfold bytesL at *
  rw [List.append_assoc] at h
  have h1 := rdN_at h (by omega)
  unfold rdNames
  rw [h1]
  simp only
  rw [if_neg (by omega), Int.toNat_natCast, rdTexts_at l bs rest _ hz (drop_at h)]
  simp only [List.length_append, Nat.add_assoc]
/-- The bytes of so many kinds from one on. -/
def bytesF (T : Nat → List ByteArray) : Nat → Nat → List Int
  | 0, _ => []
  | m + 1, j => bytesL (T j) ++ bytesF T m (j + 1)
theorem bytesF_range (T : Nat → List ByteArray) : ∀ (m j : Nat), bytesF T m j = (List.range' j m).flatMap fun k => bytesL (T k)
  | 0, j => by simp [bytesF]
  | m + 1, j => by rw [bytesF, bytesF_range T m (j + 1), List.range'_succ, List.flatMap_cons]
theorem bytesD_F (T : Nat → List ByteArray) : bytesD T 5 = bytesF T 5 0 := by rw [bytesF_range, bytesD, List.range_eq_range']
theorem rdKinds_at (T : Nat → List ByteArray) (hf : ∀ k, k < 5 → (T k).length ≤ 128 ∧ (∀ s ∈ T k, s.size ≤ 4000) ∧ (∀ s ∈ T k, mayB (k : Int) s = true) ∧ (T k).Nodup) : ∀ (m j : Nat) (bs rest : List Int) (p : Nat), j + m = 5 → bs.drop p = bytesF T m j ++ rest → rdKinds bs m j p = some ((List.range' j m).map T, p + (bytesF T m j).length)
  | 0, j, bs, rest, p, _, _ => by simp [rdKinds, bytesF]
  | m + 1, j, bs, rest, p, hj, h => by
    obtain ⟨h1, h2, h3, h4⟩ := hf j (by omega)
    rw [bytesF, List.append_assoc] at h
    have h5 := rdNames_at h1 h2 h
    have h6 := rdKinds_at T hf m (j + 1) bs rest _ (by omega) (drop_at h)
    rw [rdKinds_ok h5 h3 h4, h6]
    simp only [Option.map_some, List.range'_succ, List.map_cons, bytesF, List.length_append, Nat.add_assoc]
theorem rdDict_at {T : Nat → List ByteArray} {S : Nat → List Int} (hg : DGood hsh T S) {bs rest : List Int} {p : Nat} (h : bs.drop p = bytesD T 5 ++ rest) : ∃ L, rdDict bs p = some (L, p + (bytesD T 5).length) ∧ ∀ k, k < 5 → ofL L k = T k := by
  rw [bytesD_F] at *
  refine ⟨_, rdKinds_at T (fun k hk => ⟨(dgood_sizes hg k hk).1, (dgood_sizes hg k hk).2, hg.may k hk, (hg.good k hk).nodup⟩) 5 0 bs rest p rfl h, fun k hk => ?_⟩
  unfold ofL
  rw [List.getD_eq_getElem?_getD, List.getElem?_map, List.getElem?_range' hk]
  simp
theorem rdTexts_back {bs : List Int} (hb : Byt bs) : ∀ (m p q : Nat) (l : List ByteArray), p ≤ bs.length → rdTexts bs m p = some (l, q) → (l.flatMap fun s => bytesText (strB s)) = (bs.drop p).take (q - p)
  | 0, p, q, l, _, h => by simp [rdTexts] at h; obtain ⟨rfl, rfl⟩ := h; simp
  | m + 1, p, q, l, hp, h => by
    cases e : rdCounted 4000 bs p with
    | error c => rw [rdTexts_succ_err e] at h; cases h
    | ok y =>
      obtain ⟨x, z⟩ := y
      obtain ⟨g1, g2, g3, g4, g5⟩ := rdCounted_back hb e
      rw [rdTexts_succ_ok e, Option.map_eq_some_iff] at h
      obtain ⟨⟨l', q'⟩, h1, h2⟩ := h
      injection h2 with h2 h3
      subst h2 h3
      have h4 := rdTexts_some hb m z l' q' g3 h1
      rw [List.flatMap_cons, strB_ofB g5, g4, rdTexts_back hb m z q' l' g3 h1]
      exact take_join (by omega) (by omega)
theorem rdNames_back {bs : List Int} (hb : Byt bs) {p q : Nat} {l : List ByteArray} (h : rdNames bs p = some (l, q)) : bytesL l = (bs.drop p).take (q - p) := by
  unfold rdNames at h
  cases e : rdN bs p with
  | error c => rw [e] at h; cases h
  | ok y =>
    obtain ⟨x, z⟩ := y
    rw [e] at h
    simp only at h
    obtain ⟨n, rfl, _, h1, h2, h3⟩ := rdN_back hb e
    split at h
    · cases h
    · rw [Int.toNat_natCast] at h
      have g1 := rdTexts_some hb _ _ _ _ h2 h
      have g2 := rdTexts_back hb _ _ _ _ h2 h
      unfold bytesL
      rw [g1.1, h3, g2]
      exact take_join (by omega) (by omega)
theorem rdKinds_back {bs : List Int} (hb : Byt bs) : ∀ (m j p q : Nat) (L : List (List ByteArray)), p ≤ bs.length → rdKinds bs m j p = some (L, q) → (L.flatMap bytesL) = (bs.drop p).take (q - p) ∧ L.length = m ∧ p ≤ q ∧ q ≤ bs.length
  | 0, j, p, q, L, hp, h => by simp [rdKinds] at h; obtain ⟨rfl, rfl⟩ := h; simp [hp]
  | m + 1, j, p, q, L, hp, h => by
    cases e : rdNames bs p with
    | none => rw [rdKinds_none e] at h; cases h
    | some y =>
      obtain ⟨l, z⟩ := y
      have g := rdNames_some hb e
      by_cases c : (∀ s ∈ l, mayB (j : Int) s = true) ∧ l.Nodup
      · rw [rdKinds_ok e c.1 c.2, Option.map_eq_some_iff] at h
        obtain ⟨⟨L', q'⟩, h1, h2⟩ := h
        injection h2 with h2 h3
        subst h2 h3
        obtain ⟨k1, k2, k3, k4⟩ := rdKinds_back hb m (j + 1) z q' L' g.2.1 h1
        refine ⟨?_, by simp [k2], by omega, k4⟩
        rw [List.flatMap_cons, rdNames_back hb e, k1]
        exact take_join (by omega) (by omega)
      · rw [rdKinds_no e c] at h; cases h
theorem ofL_flat (L : List (List ByteArray)) (h : L.length = 5) : L.flatMap bytesL = bytesD (ofL L) 5 := by
  match L, h with
  | [a, b, c, d, e], _ => simp [bytesD, ofL, List.range_succ]
theorem rdDict_back {bs : List Int} (hb : Byt bs) {L : List (List ByteArray)} {q : Nat} (h : rdDict bs 0 = some (L, q)) : bytesD (ofL L) 5 = bs.take q ∧ q ≤ bs.length := by
  obtain ⟨h1, h2, _, h4⟩ := rdKinds_back hb 5 0 0 q L (Nat.zero_le _) h
  rw [← ofL_flat L h2, h1]
  simp [h4]
theorem bytesD_byt (T : Nat → List ByteArray) (j : Nat) : Byt (bytesD T j) := by
  intro x hx
  unfold bytesD at hx
  obtain ⟨k, _, hx⟩ := List.mem_flatMap.1 hx
  unfold bytesL at hx
  rcases List.mem_append.1 hx with hx | hx
  · exact sept_byt _ x hx
  · obtain ⟨s, _, hx⟩ := List.mem_flatMap.1 hx
    unfold bytesText at hx
    rcases List.mem_append.1 hx with hx | hx
    · exact sept_byt _ x hx
    · exact strB_byt s x hx
theorem bytesL_len40 (l : List ByteArray) (h : ∀ s ∈ l, s.size ≤ 40) (hl : l.length ≤ 128) : (bytesL l).length ≤ 10000 := by
  have h2 : ∀ l : List ByteArray, (∀ s ∈ l, s.size ≤ 40) → (l.flatMap fun s => bytesText (strB s)).length ≤ 50 * l.length := by
    intro l
    induction l with
    | nil => simp
    | cons s t ih =>
      intro h
      have h1 := ih (fun x hx => h x (by simp [hx]))
      have h3 := sept_ten (n := s.size) (by have := h s (by simp); omega)
      have h4 := h s (by simp)
      have e : (bytesText (strB s)).length = (sept s.size).length + s.size := by rw [bytesText, List.length_append, strB_len]
      simp only [List.flatMap_cons, List.length_append, List.length_cons]
      omega
  unfold bytesL
  rw [List.length_append]
  have h1 := sept_ten (n := l.length) (by omega)
  have := h2 l h
  omega
theorem bytesD_len40 {T : Nat → List ByteArray} {S : Nat → List Int} (h : DGood hsh T S) : ∀ j, j ≤ 5 → (bytesD T j).length ≤ 10000 * j
  | 0, _ => by simp [bytesD]
  | j + 1, hj => by
    rw [bytesD_succ, List.length_append]
    have h1 := bytesD_len40 h j (by omega)
    have h4 := bytesL_len40 (T j) (fun s hs => mayB_size (h.may j (by omega) s hs)) (h.few j (by omega))
    omega
end Go.Proofs.Ytmghbejbdkoehaa

