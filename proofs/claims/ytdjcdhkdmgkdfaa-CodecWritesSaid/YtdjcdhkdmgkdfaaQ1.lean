/- What is written is read again, and what is read is written as it stood there: plain lists. -/
import Derived.Test.YtdjcdhkdmgkdfaaC7
namespace Go.Proofs.Ytdjcdhkdmgkdfaa
open Go.RowKit Go.Proofs.Kit

theorem drop_at {bs x rest : List Int} {p : Nat} (h : bs.drop p = x ++ rest) : bs.drop (p + x.length) = rest := by
  rw [← List.drop_drop, h, List.drop_left]
theorem rdN_at {bs rest : List Int} {p n : Nat} (h : bs.drop p = sept n ++ rest) (hn : n < 18446744073709551616) : rdN bs p = .ok ((n : Int), p + (sept n).length) := by
  unfold rdN
  rw [h, rdNum_sept n 0 0 rest (by omega) (by omega) (by simpa using hn)]
  simp [Except.map]
theorem len_drop (bs : List Int) (p : Nat) : (bs.drop p).length = bs.length - p := List.length_drop
theorem rdCut_at {bs x rest : List Int} {p m : Nat} (h : bs.drop p = x ++ rest) (hm : x.length = m) : rdCut bs p m = .ok (x, p + m) := by
  unfold rdCut
  have hl := len_drop bs p
  rw [h, List.length_append] at hl
  rw [if_neg (by omega), h, ← hm, List.take_left]
theorem rdCounted_at {limit : Nat} {bs x rest : List Int} {p : Nat} (h : bs.drop p = sept x.length ++ (x ++ rest)) (hl : x.length ≤ limit) (hx : x.length < 18446744073709551616) :
    rdCounted limit bs p = .ok (x, p + (sept x.length).length + x.length) := by
  rw [rdN_ok (rdN_at h hx), if_neg (by omega), Int.toNat_natCast, rdCut_at (drop_at h) rfl]
theorem rdFrame_at {bs x rest : List Int} {p : Nat} {s : Int} (h : bs.drop p = sept x.length ++ (x ++ (four s ++ rest))) (hx : x.length ≤ 1048576) (h0 : 0 ≤ s) (h1 : s < 4294967296) :
    rdFrame bs p = if s = sumB x then .ok (x, p + (sept x.length).length + x.length + 4) else .error 122 := by
  have h2 := rdCounted_at (limit := 1048576) h hx (by omega)
  have h3 := drop_at (drop_at h)
  have h4 := rdCut_at h3 (lowB_len 4 s)
  have h5 : rdSum bs (p + (sept x.length).length + x.length) = .ok (s, p + (sept x.length).length + x.length + 4) := by
    unfold rdSum
    rw [h4]
    simp only [Except.map]
    rw [four, valB_low 4 s h0 (by omega)]
  exact rdFrame_ok h2 h5
theorem rdRows_at : ∀ (l : List Int) (bs rest acc : List Int) (p : Nat), (∀ x ∈ l, 0 ≤ x ∧ x < 18446744073709551616) → bs.drop p = rowB l ++ rest → rdRows l.length bs p acc = .ok (acc ++ l, p + (rowB l).length)
  | [], bs, rest, acc, p, _, _ => by simp [rdRows, rowB]
  | x :: t, bs, rest, acc, p, hb, h => by
    have hx := hb x (by simp)
    have e : rowB (x :: t) = sept x.toNat ++ rowB t := by simp [rowB]
    rw [e, List.append_assoc] at h
    have h1 := rdN_at h (by omega)
    rw [List.length_cons, rdRows_ok h1, rdRows_at t bs rest _ _ (fun y hy => hb y (by simp [hy])) (drop_at h), e]
    have : ((x.toNat : Nat) : Int) = x := by omega
    rw [this]
    simp
    omega
theorem rdRow_at {bs l rest : List Int} {p : Nat} (h : bs.drop p = bytesRow l ++ rest) (hb : ∀ x ∈ l, 0 ≤ x ∧ x < 18446744073709551616) (hl : l.length < 18446744073709551616) :
    rdRow bs p = .ok (l, p + (bytesRow l).length) := by
  unfold bytesRow at *
  rw [List.append_assoc] at h
  have h1 := rdN_at h hl
  have h2 := drop_at h
  have hlen := len_drop bs (p + (sept l.length).length)
  rw [h2, List.length_append] at hlen
  have hge : l.length ≤ (rowB l).length := by
    clear h h1 h2 hlen hb hl
    induction l with
    | nil => simp
    | cons x t ih => have := sept_pos x.toNat; simp [rowB] at ih ⊢; omega
  rw [rdRow_ok h1, Int.toNat_natCast, if_neg (by omega), rdRows_at l bs rest [] _ hb h2]
  simp
  omega

/-! ### Back -/
theorem take_join {bs : List Int} {p q s : Nat} (h1 : p ≤ q) (h2 : q ≤ s) : (bs.drop p).take (q - p) ++ (bs.drop q).take (s - q) = (bs.drop p).take (s - p) := by
  have e1 : bs.drop q = (bs.drop p).drop (q - p) := by rw [List.drop_drop]; congr 1; omega
  have e2 : s - p = (q - p) + (s - q) := by omega
  rw [e1, e2, List.take_add]
theorem rdCounted_back {limit : Nat} {bs l : List Int} {p q : Nat} (hb : Byt bs) (h : rdCounted limit bs p = .ok (l, q)) :
    l.length ≤ limit ∧ p < q ∧ q ≤ bs.length ∧ bytesText l = (bs.drop p).take (q - p) ∧ Byt l := by
  have hby := (rdCounted_sub hb h).1
  cases hr : rdN bs p with
  | error c => rw [rdN_err hr] at h; cases h
  | ok y =>
    obtain ⟨n, q1⟩ := y
    obtain ⟨m, rfl, _, g1, g2, g3⟩ := rdN_back hb hr
    rw [rdN_ok hr] at h
    split at h
    · cases h
    · rename_i hlim
      rw [Int.toNat_natCast] at h
      obtain ⟨rfl, rfl, h3⟩ := rdCut_sub h
      have hl : ((bs.drop q1).take m).length = m := by simp; omega
      refine ⟨by omega, by omega, by omega, ?_, hby⟩
      unfold bytesText
      rw [hl, g3]
      have := take_join (bs := bs) (p := p) (q := q1) (s := q1 + m) (by omega) (by omega)
      rw [← this]
      congr 2
      omega
theorem rdFrame_back {bs l : List Int} {p q : Nat} (hb : Byt bs) (h : rdFrame bs p = .ok (l, q)) :
    l.length ≤ 1048576 ∧ p < q ∧ q ≤ bs.length ∧ bytesFrame l = (bs.drop p).take (q - p) ∧ Byt l := by
  cases h1 : rdCounted 1048576 bs p with
  | error c => rw [rdFrame_e1 h1] at h; cases h
  | ok y =>
    obtain ⟨l1, q1⟩ := y
    obtain ⟨g1, g2, g3, g4, g5⟩ := rdCounted_back hb h1
    cases h2 : rdSum bs q1 with
    | error c => rw [rdFrame_e2 h1 h2] at h; cases h
    | ok z =>
      obtain ⟨s, q2⟩ := z
      rw [rdFrame_ok h1 h2] at h
      split at h
      · rename_i hs
        injection h with h; injection h with e1 e2
        subst e1 e2
        unfold rdSum at h2
        cases h3 : rdCut bs q1 4 with
        | error c => rw [h3] at h2; cases h2
        | ok u =>
          obtain ⟨f, q3⟩ := u
          rw [h3] at h2
          simp only [Except.map] at h2
          injection h2 with h2; injection h2 with e1 e2
          subst e2
          obtain ⟨f1, f2, f3⟩ := rdCut_sub h3
          subst f2
          refine ⟨g1, by omega, by omega, ?_, g5⟩
          have hf : four (sumB l1) = f := by
            have hl4 : f.length = 4 := by rw [f1]; simp; omega
            have := low_valB f (by rw [f1]; exact byt_sub hb _ _)
            rw [hl4, e1, hs] at this
            exact this
          unfold bytesFrame
          rw [hf, ← List.append_assoc]
          rw [show sept l1.length ++ l1 = bytesText l1 from rfl, g4, f1]
          have := take_join (bs := bs) (p := p) (q := q1) (s := q1 + 4) (by omega) (by omega)
          rw [← this]
          congr 2
          omega
      · cases h
theorem rdRows_back {bs : List Int} (hb : Byt bs) : ∀ (k : Nat) (acc l : List Int) (p q : Nat), p ≤ bs.length → rdRows k bs p acc = .ok (l, q) →
    ∃ t, l = acc ++ t ∧ t.length = k ∧ (∀ x ∈ t, 0 ≤ x ∧ x < 18446744073709551616) ∧ p ≤ q ∧ q ≤ bs.length ∧ rowB t = (bs.drop p).take (q - p)
  | 0, acc, l, p, q, hp, h => by
    simp only [rdRows] at h
    injection h with h; injection h with e1 e2
    subst e1 e2
    exact ⟨[], by simp, rfl, by simp, by omega, hp, by simp [rowB]⟩
  | k + 1, acc, l, p, q, hp, h => by
    cases hr : rdN bs p with
    | error c => rw [rdRows_e hr] at h; cases h
    | ok y =>
      obtain ⟨n, q1⟩ := y
      obtain ⟨m, rfl, g0, g1, g2, g3⟩ := rdN_back hb hr
      rw [rdRows_ok hr] at h
      obtain ⟨t, t1, t2, t3, t4, t5, t6⟩ := rdRows_back hb k _ l q1 q g2 h
      refine ⟨(m : Int) :: t, by rw [t1]; simp, by simp [t2], ?_, by omega, t5, ?_⟩
      · intro x hx
        rcases List.mem_cons.1 hx with rfl | hx
        · omega
        · exact t3 x hx
      · have e : rowB ((m : Int) :: t) = sept m ++ rowB t := by simp [rowB]
        rw [e, t6, g3]
        exact take_join (by omega) t4
theorem rdRow_back {bs l : List Int} {p q : Nat} (hb : Byt bs) (h : rdRow bs p = .ok (l, q)) :
    l.length ≤ bs.length ∧ (∀ x ∈ l, 0 ≤ x ∧ x < 18446744073709551616) ∧ p < q ∧ q ≤ bs.length ∧ bytesRow l = (bs.drop p).take (q - p) := by
  cases hr : rdN bs p with
  | error c => rw [rdRow_e hr] at h; cases h
  | ok y =>
    obtain ⟨n, q1⟩ := y
    obtain ⟨m, rfl, _, g1, g2, g3⟩ := rdN_back hb hr
    rw [rdRow_ok hr, Int.toNat_natCast] at h
    split at h
    · cases h
    · obtain ⟨t, t1, t2, t3, t4, t5, t6⟩ := rdRows_back hb m [] l q1 q g2 h
      rw [List.nil_append] at t1
      subst t1
      refine ⟨by omega, t3, by omega, t5, ?_⟩
      unfold bytesRow
      rw [t2, g3, t6]
      exact take_join (by omega) t4

/-! ### One byte that is another one -/
theorem sum_step {s t x : Int} (hs0 : 0 ≤ s) (hs : s < 4294967296) (ht0 : 0 ≤ t) (ht : t < 4294967296) (h : (31 * s + x + 1) % 4294967296 = (31 * t + x + 1) % 4294967296) : s = t := by omega
theorem sumF_inj : ∀ (l : List Int) (s t : Int), 0 ≤ s → s < 4294967296 → 0 ≤ t → t < 4294967296 → l.foldl (fun s x => (31 * s + x + 1) % 4294967296) s = l.foldl (fun s x => (31 * s + x + 1) % 4294967296) t → s = t
  | [], s, t, _, _, _, _, h => h
  | x :: l, s, t, a, b, c, d, h => by
    simp only [List.foldl_cons] at h
    have := sumF_inj l _ _ (by omega) (by omega) (by omega) (by omega) h
    exact sum_step a b c d this
theorem sumF_set : ∀ (l : List Int) (k : Nat) (hk : k < l.length) (x : Int) (s : Int), 0 ≤ s → s < 4294967296 → Byt l → 0 ≤ x → x < 256 →
    l.foldl (fun s x => (31 * s + x + 1) % 4294967296) s = (l.set k x).foldl (fun s x => (31 * s + x + 1) % 4294967296) s → l[k] = x
  | y :: l, 0, hk, x, s, s0, s1, hb, x0, x1, h => by
    simp only [List.set_cons_zero, List.foldl_cons] at h
    have hy := hb y (by simp)
    have := sumF_inj l _ _ (by omega) (by omega) (by omega) (by omega) h
    simp only [List.getElem_cons_zero]
    omega
  | y :: l, k + 1, hk, x, s, s0, s1, hb, x0, x1, h => by
    simp only [List.set_cons_succ, List.foldl_cons] at h
    simpa using sumF_set l k (by simpa using hk) x _ (by omega) (by omega) (fun z hz => hb z (by simp [hz])) x0 x1 h
theorem sum_set {l : List Int} {k : Nat} (hk : k < l.length) {x : Int} (hb : Byt l) (x0 : 0 ≤ x) (x1 : x < 256) : sumB l = sumB (l.set k x) ↔ l[k] = x := by
  constructor
  · exact fun h => sumF_set l k hk x 1 (by omega) (by omega) hb x0 x1 h
  · rintro rfl; simp
end Go.Proofs.Ytdjcdhkdmgkdfaa
