/- trie.down: the row under a path. -/
import Derived.Test.YtjfnhjmdgfkgnaaU10
namespace Go.Proofs.Kit
open Go.RowKit
def keysB (bs : List Br) : List Int := bs.map (·.1)
/-- The leaves under a key. -/
def leavesAt (bs : List Br) (lv : List Int) (a : Int) : List Int := ((prs bs lv).filter fun x => decide (x.1 = a)).map (·.2)
/-- The row under a path, if there is such a path. -/
def pathRow (bs : List Br) (lv : List Int) : List Int → Option (List Int)
  | [] => some (keysB bs)
  | [a] => if a ∈ keysB bs then some (leavesAt bs lv a) else none
  | [a, b] => if a ∈ keysB bs ∧ b ∈ leavesAt bs lv a then some [] else none
  | _ => none
theorem keys_rise {n : Nat} {bs : List Br} (h : Chd n bs) : Rises (keysB bs) := by
  unfold Rises keysB
  rw [List.pairwise_map, List.pairwise_iff_getElem]
  intro i j hi hj hij
  induction j with
  | zero => omega
  | succ j ih =>
    have h1 := (h.1 (j + 1) hj).1 (by omega)
    rw [show j + 1 - 1 = j by omega, getD_of hj, getD_of (show j < bs.length by omega)] at h1
    by_cases e : i = j
    · subst e; exact h1
    · have := ih (by omega) (by omega)
      omega
theorem filt_key {l : List Int} {k a : Int} : (((l.map fun n => ((k, n) : Pr)).filter fun x => decide (x.1 = a)).map (·.2)) = if k = a then l else [] := by
  by_cases h : k = a
  · rw [if_pos h, List.filter_eq_self.2 (by intro x hx; obtain ⟨n, _, rfl⟩ := List.mem_map.1 hx; simpa using h), List.map_map]
    exact List.map_id _
  · rw [if_neg h, List.filter_eq_nil_iff.2 (by intro x hx; obtain ⟨n, _, rfl⟩ := List.mem_map.1 hx; simpa using h)]
    rfl
theorem leavesAt_cons (b : Br) (t : List Br) (lv : List Int) (a : Int) : leavesAt (b :: t) lv a = (if b.1 = a then lvs lv b else []) ++ leavesAt t lv a := by
  unfold leavesAt prs
  rw [List.flatMap_cons, List.filter_append, List.map_append, filt_key]
theorem leavesAt_no {a : Int} {lv : List Int} : ∀ {bs : List Br}, a ∉ keysB bs → leavesAt bs lv a = []
  | [], _ => rfl
  | b :: t, h => by
    unfold keysB at h
    simp only [List.map_cons, List.mem_cons, not_or] at h
    rw [leavesAt_cons, if_neg (fun e => h.1 e.symm), leavesAt_no (bs := t) h.2]
    rfl
theorem leavesAt_at {lv : List Int} : ∀ {bs : List Br} (_ : Rises (keysB bs)) {i : Nat} (hi : i < bs.length), leavesAt bs lv bs[i].1 = lvs lv bs[i]
  | b :: t, h, 0, _ => by
    have h1 := List.pairwise_cons.1 (show ((b.1 :: t.map (·.1)).Pairwise fun x y => x < y) from h)
    rw [leavesAt_cons]
    simp only [List.getElem_cons_zero, if_true]
    rw [leavesAt_no (bs := t) (fun hm => by have := h1.1 _ hm; omega)]
    simp
  | b :: t, h, i + 1, hi => by
    have h1 := List.pairwise_cons.1 (show ((b.1 :: t.map (·.1)).Pairwise fun x y => x < y) from h)
    have hi' : i < t.length := by simpa using hi
    have hm : t[i].1 ∈ t.map (·.1) := List.mem_map.2 ⟨t[i], List.getElem_mem hi', rfl⟩
    have := h1.1 _ hm
    rw [leavesAt_cons]
    simp only [List.getElem_cons_succ]
    rw [if_neg (by omega), leavesAt_at (bs := t) h1.2 hi']
    rfl
/-- The branch of a key. -/
theorem key_at {bs : List Br} (h : Rises (keysB bs)) {a : Int} (ha : a ∈ keysB bs) : ∃ hi : plcU (keysB bs) a < bs.length, (bs[plcU (keysB bs) a]'hi).1 = a := by
  obtain ⟨hi, e⟩ := plcU_mem h ha
  have hi' : plcU (keysB bs) a < bs.length := by simpa [keysB] using hi
  refine ⟨hi', ?_⟩
  simp only [keysB, List.getElem_map] at e ⊢
  exact e
theorem row_rises {bs : List Br} {lv : List Int} (h : ok7 bs lv) : ∀ {p r : List Int}, pathRow bs lv p = some r → Rises r
  | [], r, e => by
    injection e with e
    subst e
    exact keys_rise h.2.1
  | [a], r, e => by
    rw [pathRow] at e
    split at e
    · injection e with e
      subst e
      rename_i ha
      obtain ⟨hi, e⟩ := key_at (keys_rise h.2.1) ha
      rw [← e, leavesAt_at (keys_rise h.2.1) hi]
      exact h.2.2 _ (List.getElem_mem hi)
    · cases e
  | [a, b], r, e => by
    rw [pathRow] at e
    split at e
    · injection e with e
      subst e
      exact List.Pairwise.nil
    · cases e
  | _ :: _ :: _ :: _, r, e => by simp [pathRow] at e
end Go.Proofs.Kit
namespace Go.Proofs.Kit
open Go.RowKit
/-- How a step down ends. -/
def StepR (bs : List Br) (lv P : List Int) (ob : Option Addr) (m cb : Nat) (ol : Option Addr) (q cl : Nat) (ob' : Option Addr) (m' cb' : Nat) (ol' : Option Addr) (q' cl' : Nat) (o' : Option Addr) (n' c' : Nat) (good : Bool) (W : World) : Prop :=
  if good = true then (ob' = ob ∧ m' = m ∧ cb' = cb ∧ ol' = ol ∧ q' = q ∧ cl' = cl) ∧ ∃ r, pathRow bs lv P = some r ∧ r.length = n' ∧ Seg .u64 W (.slice o' n' c') r else pathRow bs lv P = none
theorem pathRow_len {bs : List Br} {lv : List Int} (h : ok7 bs lv) {p r : List Int} (e : pathRow bs lv p = some r) : r.length ≤ lv.length := by
  have hT := tri h
  have hlen := hT.lenL
  match p, e with
  | [], e =>
    injection e with e
    subst e
    have h1 := bof_le (prs bs lv)
    rw [hT.bof] at h1
    unfold keysB
    rw [List.length_map]
    omega
  | [a], e =>
    rw [pathRow] at e
    split at e
    · injection e with e
      subst e
      unfold leavesAt
      rw [List.length_map]
      have h1 := List.length_filter_le (fun x : Pr => decide (x.1 = a)) (prs bs lv)
      omega
    · cases e
  | [a, b], e =>
    rw [pathRow] at e
    split at e
    · injection e with e
      subst e
      simp
    · cases e
  | _ :: _ :: _ :: _, e => simp [pathRow] at e
end Go.Proofs.Kit
namespace Go.Proofs.Ytjfnhjmdgfkgnaa
open Go.RowKit Go.Proofs.Kit
/-- How a step down ends, with its value. -/
def StepP (bs : List Br) (lv P : List Int) (ob : Option Addr) (m cb : Nat) (ol : Option Addr) (q cl : Nat) (w : World) (e : Ending) (w' : World) : Prop :=
  ∃ ob' m' cb' ol' q' cl' o' n' c' good, e = .returned (.tuple #[LV ob' m' cb' ol' q' cl' o' n' c', .bool good]) ∧ StepR bs lv P ob m cb ol q cl ob' m' cb' ol' q' cl' o' n' c' good w' ∧ Below w.heap.size w w'
/-- The same, the row read in a world that was there ahead. -/
def StepQ (bs : List Br) (lv P : List Int) (ob : Option Addr) (m cb : Nat) (ol : Option Addr) (q cl : Nat) (w0 w : World) (e : Ending) (w' : World) : Prop :=
  ∃ ob' m' cb' ol' q' cl' o' n' c' good, e = .returned (.tuple #[LV ob' m' cb' ol' q' cl' o' n' c', .bool good]) ∧ StepR bs lv P ob m cb ol q cl ob' m' cb' ol' q' cl' o' n' c' good w0 ∧ Below w.heap.size w w'
theorem step0 (ob : Option Addr) (m cb : Nat) (ol : Option Addr) (q cl : Nat) (orw : Option Addr) (n cr : Nat) (bs : List Br) (lv : List Int) (a : Int) (w0 w : World) (hok : ok7 bs lv) (hb : SegR w (.slice ob m cb) bs) (hl : Seg .u64 w0 (.slice ol q cl) lv) (hm : bs.length = m) (hq : lv.length = q) (hml : m ≤ 1000000)
    (r : List Int) (hr : pathRow bs lv [] = some r) (hrn : r.length = n) (h : Seg .u64 w (.slice orw n cr) r) :
    Calls Try.prog 83 #[LV ob m cb ol q cl orw n cr, .int .u64 a] w (StepQ bs lv [a] ob m cb ol q cl w0 w) := by
  injection hr with hr
  subst hr
  have hkr := keys_rise hok.2.1
  have hnm : n = m := by rw [← hrn, ← hm]; simp [keysB]
  by_cases ha : a ∈ keysB bs
  · obtain ⟨hi, e⟩ := key_at hkr ha
    obtain ⟨i, hi'⟩ : ∃ i, i = plcU (keysB bs) a := ⟨_, rfl⟩
    have hib : i < bs.length := by rw [hi']; exact hi
    have e' : bs[i].1 = a := by subst hi'; exact e
    have hbr := hok.2.1.br hib
    have hlv := leavesAt_at (lv := lv) hkr hib
    rw [e'] at hlv
    obtain ⟨bl, fl, hol⟩ : ∃ bl fl, ol = some ⟨bl, fl, none⟩ := by
      rcases hl.2 with ⟨_, e0⟩ | ⟨b', f', c', e0, _⟩
      · rw [e0] at hbr; simp at hbr; omega
      · injection e0 with e0 _ _
        exact ⟨b', f', e0⟩
    subst hol
    have hcl : q ≤ cl ∧ cl ≤ 9223372036854775807 := by
      obtain ⟨o, c, e0, h1, h2, _⟩ := hl.shape
      injection e0 with _ e1 e2
      omega
    have hsg := hl.lvs (x := bs[i]) hbr.1 hbr.2.2.1 hbr.2.2.2
    have hx : bs[i] = (bs[i].1, (bs[i].2.1.toNat : Int), (bs[i].2.2.toNat : Int)) := by
      have e1 : (bs[i].2.1.toNat : Int) = bs[i].2.1 := by omega
      have e2 : (bs[i].2.2.toNat : Int) = bs[i].2.2 := by omega
      rw [e1, e2]
    refine (branch_yes ob m cb bl fl q cl orw n cr (keysB bs) a bs w h hrn hkr (by omega) hb hm i (by omega) hi'.symm ha bs[i].2.1.toNat bs[i].2.2.toNat bs[i].1 hx (by omega) (by omega) hcl.1 hcl.2).mono ?_
    rintro e w' ⟨rfl, hlow⟩
    refine ⟨_, _, _, _, _, _, _, _, _, true, rfl, ?_, hlow⟩
    refine ⟨⟨rfl, rfl, rfl, rfl, rfl, rfl⟩, leavesAt bs lv a, by rw [pathRow, if_pos ha], ?_, ?_⟩
    · rw [hlv]
      have := lvs_len (lv := lv) (b := bs[i]) hbr.1 (by omega) hbr.2.2.2
      omega
    · rw [hlv]
      exact hsg
  · refine (branch_no ob m cb ol q cl orw n cr (keysB bs) a w h hrn hkr (by omega) ha).mono ?_
    rintro e w' ⟨rfl, hlow⟩
    exact ⟨_, _, _, _, _, _, _, _, _, false, rfl, by show pathRow bs lv [a] = none; rw [pathRow, if_neg ha], hlow⟩
theorem step1 (ob : Option Addr) (m cb : Nat) (ol : Option Addr) (q cl : Nat) (orw : Option Addr) (n cr : Nat) (bs : List Br) (lv : List Int) (a b : Int) (w0 w : World) (hok : ok7 bs lv)
    (r : List Int) (hr : pathRow bs lv [a] = some r) (hrn : r.length = n) (h : Seg .u64 w (.slice orw n cr) r) (hn : n ≤ 1000000) :
    Calls Try.prog 84 #[LV ob m cb ol q cl orw n cr, .int .u64 b] w (StepQ bs lv [a, b] ob m cb ol q cl w0 w) := by
  have hrr := row_rises hok hr
  have hra : a ∈ keysB bs ∧ r = leavesAt bs lv a := by
    rw [pathRow] at hr
    split at hr
    · injection hr with hr
      exact ⟨by assumption, hr.symm⟩
    · cases hr
  refine (leaf_any ob m cb ol q cl orw n cr r b w h hrn hrr hn).mono ?_
  rintro e w' ⟨rfl, hlow⟩
  refine ⟨_, _, _, _, _, _, _, _, _, _, rfl, ?_, hlow⟩
  by_cases hb : b ∈ r
  · rw [decide_eq_true hb]
    exact ⟨⟨rfl, rfl, rfl, rfl, rfl, rfl⟩, [], by rw [pathRow, if_pos ⟨hra.1, by rw [← hra.2]; exact hb⟩], rfl, Seg.nil _ _⟩
  · rw [decide_eq_false hb]
    show pathRow bs lv [a, b] = none
    rw [pathRow, if_neg (fun h => hb (by rw [hra.2]; exact h.2))]
end Go.Proofs.Ytjfnhjmdgfkgnaa

