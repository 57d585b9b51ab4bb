/- Tries as plain lists: branches of a run, and the run of branches. No program is named here. -/
import Derived.Test.YtjfnhjmdgfkgnaaU1
import Derived.Test.YtjfnhjmdgfkgnaaN10
namespace Go.Proofs.Kit
open Go.RowKit

def cl (l : List Pr) (k : Int) : Nat := l.countP fun x => decide (x.1 < k)
def cu (l : List Pr) (k : Int) : Nat := l.countP fun x => decide (x.1 ≤ k)
def bofK (l : List Pr) (ks : List Int) : List Br := ks.map fun k => (k, (cl l k : Int), (cu l k : Int))
/-- The branches of a run. -/
def bof (l : List Pr) : List Br := bofK l (dd (l.map (·.1)))
def shf (n : Nat) (l : List Br) : List Br := l.map fun b => (b.1, b.2.1 + n, b.2.2 + n)

theorem dd_rep (k : Int) : ∀ m, dd (k :: List.replicate m k) = [k]
  | 0 => rfl
  | m + 1 => by rw [List.replicate_succ, dd, if_pos rfl, dd_rep k m]
theorem dd_app : ∀ (a b : List Int), (∀ x ∈ a, ∀ y ∈ b, x ≠ y) → dd (a ++ b) = dd a ++ dd b
  | [], b, _ => by simp [dd]
  | [x], [], _ => by simp [dd]
  | [x], y :: t, h => by
    have : x ≠ y := h x (by simp) y (by simp)
    simp [dd, this]
  | x :: y :: t, b, h => by
    have := dd_app (y :: t) b (fun u hu v hv => h u (List.mem_cons_of_mem _ hu) v hv)
    simp only [List.cons_append] at this ⊢
    rw [dd, dd, this]
    split <;> simp
theorem cl_app (a b : List Pr) (k : Int) : cl (a ++ b) k = cl a k + cl b k := by unfold cl; rw [List.countP_append]
theorem cu_app (a b : List Pr) (k : Int) : cu (a ++ b) k = cu a k + cu b k := by unfold cu; rw [List.countP_append]
theorem cl_all {a : List Pr} {k : Int} (h : ∀ x ∈ a, x.1 < k) : cl a k = a.length := by
  unfold cl; rw [List.countP_eq_length]; intro x hx; simpa using h x hx
theorem cu_all {a : List Pr} {k : Int} (h : ∀ x ∈ a, x.1 ≤ k) : cu a k = a.length := by
  unfold cu; rw [List.countP_eq_length]; intro x hx; simpa using h x hx
theorem cl_no {a : List Pr} {k : Int} (h : ∀ x ∈ a, k ≤ x.1) : cl a k = 0 := by
  unfold cl; rw [List.countP_eq_zero]; intro x hx; have := h x hx; simp; omega
theorem cu_no {a : List Pr} {k : Int} (h : ∀ x ∈ a, k < x.1) : cu a k = 0 := by
  unfold cu; rw [List.countP_eq_zero]; intro x hx; have := h x hx; simp; omega
/-- Two parts, the keys of the one all ahead of those of the other. -/
theorem bof_app {a b : List Pr} (h : ∀ x ∈ a, ∀ y ∈ b, x.1 < y.1) : bof (a ++ b) = bof a ++ shf a.length (bof b) := by
  unfold bof bofK shf
  rw [List.map_append, dd_app _ _ (by
    intro u hu v hv
    obtain ⟨x, hx, rfl⟩ := List.mem_map.1 hu
    obtain ⟨y, hy, rfl⟩ := List.mem_map.1 hv
    have := h x hx y hy
    omega), List.map_append, List.map_map]
  congr 1
  · refine List.map_congr_left fun k hk => ?_
    obtain ⟨x, hx, rfl⟩ := List.mem_map.1 ((dd_mem _ _).1 hk)
    rw [cl_app, cu_app, cl_no (a := b) (fun y hy => by have := h x hx y hy; omega), cu_no (a := b) (fun y hy => h x hx y hy)]
    simp
  · refine List.map_congr_left fun k hk => ?_
    obtain ⟨y, hy, rfl⟩ := List.mem_map.1 ((dd_mem _ _).1 hk)
    rw [cl_app, cu_app, cl_all (a := a) (fun x hx => h x hx y hy), cu_all (a := a) (fun x hx => by have := h x hx y hy; omega)]
    simp only [Function.comp, Prod.mk.injEq, true_and]
    omega
theorem bof_nil : bof [] = [] := rfl
theorem bof_one {k : Int} {m : List Int} (hm : m ≠ []) : bof (m.map fun n => (k, n)) = [(k, 0, (m.length : Int))] := by
  cases m with
  | nil => exact (hm rfl).elim
  | cons n t =>
    unfold bof bofK
    have e : (((n :: t).map fun n => ((k, n) : Pr)).map (·.1)) = k :: List.replicate t.length k := by
      rw [List.map_map]
      show List.map (fun _ => k) (n :: t) = _
      rw [List.map_const']
      rfl
    rw [e, dd_rep, List.map_cons, List.map_nil, cl_no (by simp), cu_all (by simp)]
    simp
theorem bof_block {T : List Pr} {k : Int} {m : List Int} (hm : m ≠ []) (h : ∀ x ∈ T, x.1 < k) : bof (T ++ m.map fun n => (k, n)) = bof T ++ [(k, (T.length : Int), (T.length : Int) + m.length)] := by
  rw [bof_app (by
    intro x hx y hy
    obtain ⟨n, _, rfl⟩ := List.mem_map.1 hy
    exact h x hx), bof_one hm]
  simp only [shf, List.map_cons, List.map_nil]
  have e1 : (0 : Int) + (T.length : Int) = T.length := by omega
  have e2 : (m.length : Int) + (T.length : Int) = (T.length : Int) + m.length := by omega
  rw [e1, e2]
theorem bof_keys (l : List Pr) : (bof l).map (·.1) = dd (l.map (·.1)) := by
  unfold bof bofK
  rw [List.map_map]
  exact List.map_id' _
theorem bof_len (l : List Pr) : (bof l).length = (dd (l.map (·.1))).length := by rw [← bof_keys, List.length_map]
theorem bof_le (l : List Pr) : (bof l).length ≤ l.length := by
  rw [bof_len]
  have := dd_len (l.map (·.1))
  simpa using this
theorem shf_zero (l : List Br) : shf 0 l = l := by
  unfold shf
  simp

/-! ### A run in parts -/
theorem run_key {l : List Pr} (h : Run l) {i j : Nat} (hi : i < l.length) (hj : j < l.length) (hij : i ≤ j) : l[i].1 ≤ l[j].1 := by
  by_cases e : i = j
  · subst e; exact Int.le_refl _
  · have := h.at hi hj (by omega)
    unfold lt2 at this; omega
theorem filt_run {l : List Pr} (h : Run l) (q : Pr → Bool) : Run (l.filter q) := h.sub List.filter_sublist
theorem run_cut {l : List Pr} (h : Run l) (k : Int) : l = l.filter (fun x => decide (x.1 < k)) ++ l.filter (fun x => decide (k ≤ x.1)) := by
  refine run_ext h (run_app (filt_run h _) (filt_run h _) ?_) ?_
  · intro x hx y hy
    simp only [List.mem_filter, decide_eq_true_eq] at hx hy
    unfold lt2; omega
  · intro p
    simp only [List.mem_append, List.mem_filter, decide_eq_true_eq]
    constructor
    · intro hp
      by_cases c : p.1 < k
      · exact .inl ⟨hp, c⟩
      · exact .inr ⟨hp, by omega⟩
    · rintro (h | h) <;> exact h.1
theorem run_last {l : List Pr} (h : Run l) {k : Int} (hk : ∀ x ∈ l, x.1 ≤ k) : l = l.filter (fun x => decide (x.1 < k)) ++ ((l.filter fun x => decide (x.1 = k)).map (·.2)).map fun n => (k, n) := by
  have e : ((l.filter fun x => decide (x.1 = k)).map (·.2)).map (fun n => ((k, n) : Pr)) = l.filter fun x => decide (x.1 = k) := by
    rw [List.map_map]
    refine (List.map_congr_left fun x hx => ?_).trans (List.map_id _)
    simp only [List.mem_filter, decide_eq_true_eq] at hx
    obtain ⟨a, b⟩ := x
    obtain ⟨_, e⟩ := hx
    simp only at e
    subst e
    rfl
  rw [e]
  refine run_ext h (run_app (filt_run h _) (filt_run h _) ?_) ?_
  · intro x hx y hy
    simp only [List.mem_filter, decide_eq_true_eq] at hx hy
    unfold lt2; omega
  · intro p
    simp only [List.mem_append, List.mem_filter, decide_eq_true_eq]
    constructor
    · intro hp
      have := hk p hp
      by_cases c : p.1 < k
      · exact .inl ⟨hp, c⟩
      · exact .inr ⟨hp, by omega⟩
    · rintro (h | h) <;> exact h.1
/-- A pair more, of a new key. -/
theorem bof_new {T : List Pr} {p : Pr} (h : ∀ x ∈ T, x.1 < p.1) : bof (T ++ [p]) = bof T ++ [(p.1, (T.length : Int), (T.length : Int) + 1)] := by
  have := bof_block (T := T) (k := p.1) (m := [p.2]) (by simp) h
  simpa using this
/-- A pair more, of the key that stands last. -/
theorem bof_more {T : List Pr} {p : Pr} (hr : Run T) (h : ∀ x ∈ T, x.1 ≤ p.1) (hl : ∃ x ∈ T, x.1 = p.1) :
    ∃ (C : List Br) (f t : Int), bof T = C ++ [(p.1, f, t)] ∧ bof (T ++ [p]) = C ++ [(p.1, f, (T.length : Int) + 1)] := by
  have e := run_last hr h
  obtain ⟨M, hM⟩ : ∃ M, M = (T.filter fun x => decide (x.1 = p.1)).map (·.2) := ⟨_, rfl⟩
  obtain ⟨A, hA⟩ : ∃ A, A = T.filter (fun x => decide (x.1 < p.1)) := ⟨_, rfl⟩
  rw [← hM, ← hA] at e
  have hM0 : M ≠ [] := by
    obtain ⟨x, hx, ex⟩ := hl
    rw [hM]
    intro e0
    have : x ∈ T.filter fun x => decide (x.1 = p.1) := List.mem_filter.2 ⟨hx, by simpa using ex⟩
    rw [List.map_eq_nil_iff.1 e0] at this
    simp at this
  have hAk : ∀ x ∈ A, x.1 < p.1 := by
    intro x hx
    rw [hA] at hx
    simpa using (List.mem_filter.1 hx).2
  have e2 : T ++ [p] = A ++ (M ++ [p.2]).map fun n => (p.1, n) := by
    rw [e]; simp
  have hlen : T.length = A.length + M.length := by rw [e]; simp
  refine ⟨bof A, A.length, (A.length : Int) + M.length, ?_, ?_⟩
  · conv => lhs; rw [e]
    exact bof_block hM0 hAk
  · rw [e2, bof_block (by simp) hAk]
    congr 4
    rw [hlen]
    simp
    omega

/-! ### Branches, and what may be -/
def lvs (lv : List Int) (b : Br) : List Int := (lv.drop b.2.1.toNat).take (b.2.2.toNat - b.2.1.toNat)
/-- The pairs of branches and leaves. -/
def prs (bs : List Br) (lv : List Int) : List Pr := bs.flatMap fun b => (lvs lv b).map fun n => (b.1, n)
/-- Where the part ahead of a place ends. -/
def endAt (bs : List Br) : Nat → Int
  | 0 => 0
  | i + 1 => (bs.getD i (0, 0, 0)).2.2
def Lnk (n : Nat) (bs : List Br) (i : Nat) : Prop := (0 < i → (bs.getD (i - 1) (0, 0, 0)).1 < (bs.getD i (0, 0, 0)).1) ∧ (bs.getD i (0, 0, 0)).2.1 = endAt bs i ∧ (bs.getD i (0, 0, 0)).2.1 < (bs.getD i (0, 0, 0)).2.2 ∧ (bs.getD i (0, 0, 0)).2.2 ≤ n
def Rises (l : List Int) : Prop := l.Pairwise fun x y => x < y
instance (l : List Int) : Decidable (Rises l) := by unfold Rises; infer_instance
def Chd (n : Nat) (bs : List Br) : Prop := (∀ i, i < bs.length → Lnk n bs i) ∧ endAt bs bs.length = n
/-- What may be a trie. -/
def ok7 (bs : List Br) (lv : List Int) : Prop := lv.length ≤ 1048576 ∧ Chd lv.length bs ∧ ∀ b ∈ bs, Rises (lvs lv b)
instance (n : Nat) (bs : List Br) (i : Nat) : Decidable (Lnk n bs i) := by unfold Lnk; infer_instance
instance (n : Nat) (bs : List Br) : Decidable (Chd n bs) := by unfold Chd; infer_instance
instance (bs : List Br) (lv : List Int) : Decidable (ok7 bs lv) := by unfold ok7; infer_instance

theorem Chd.at {n : Nat} {bs : List Br} (h : Chd n bs) : ∀ i, i ≤ bs.length → 0 ≤ endAt bs i ∧ endAt bs i ≤ n
  | 0, _ => by simp [endAt]
  | i + 1, hi => by
    have h1 := h.1 i (by omega)
    have h2 := h.at i (by omega)
    unfold Lnk at h1
    simp only [endAt]
    omega
theorem getD_of {bs : List Br} {i : Nat} (h : i < bs.length) : bs.getD i (0, 0, 0) = bs[i] := by simp [List.getD, h]
theorem Chd.br {n : Nat} {bs : List Br} (h : Chd n bs) {i : Nat} (hi : i < bs.length) : 0 ≤ bs[i].2.1 ∧ bs[i].2.1 = endAt bs i ∧ bs[i].2.1 < bs[i].2.2 ∧ bs[i].2.2 ≤ n := by
  have h1 := h.1 i hi
  have h2 := h.at i (by omega)
  unfold Lnk at h1
  rw [getD_of hi] at h1
  omega
theorem prs_take_succ {bs : List Br} {lv : List Int} {i : Nat} (hi : i < bs.length) : prs (bs.take (i + 1)) lv = prs (bs.take i) lv ++ (lvs lv bs[i]).map fun n => (bs[i].1, n) := by
  unfold prs
  rw [List.take_succ_eq_append_getElem hi, List.flatMap_append]
  simp
theorem lvs_len {lv : List Int} {b : Br} (h0 : 0 ≤ b.2.1) (h1 : b.2.1 ≤ b.2.2) (h2 : b.2.2 ≤ lv.length) : ((lvs lv b).length : Int) = b.2.2 - b.2.1 := by
  unfold lvs
  simp
  omega
/-- Branch by branch. -/
structure Upto (bs : List Br) (lv : List Int) (i : Nat) : Prop where
  len : ((prs (bs.take i) lv).length : Int) = endAt bs i
  snd : (prs (bs.take i) lv).map (·.2) = lv.take (endAt bs i).toNat
  run : Run (prs (bs.take i) lv)
  key : ∀ x ∈ prs (bs.take i) lv, 0 < i ∧ x.1 ≤ (bs.getD (i - 1) (0, 0, 0)).1
  bof : bof (prs (bs.take i) lv) = bs.take i
theorem upto {bs : List Br} {lv : List Int} (h : Chd lv.length bs) (hr : ∀ b ∈ bs, Rises (lvs lv b)) : ∀ i, i ≤ bs.length → Upto bs lv i
  | 0, _ => ⟨by simp [prs, endAt], by simp [prs, endAt], by simp [prs, Run], by simp [prs], by simp [prs, bof_nil]⟩
  | i + 1, hi => by
    have U := upto h hr i (by omega)
    have hb := h.br (i := i) (by omega)
    have hl := h.1 i (by omega)
    have hR := hr bs[i] (by simp)
    have hlen := lvs_len (lv := lv) (b := bs[i]) hb.1 (by omega) hb.2.2.2
    have hne : lvs lv bs[i] ≠ [] := by
      intro e; rw [e] at hlen; simp at hlen; omega
    have hlt : ∀ x ∈ prs (bs.take i) lv, x.1 < bs[i].1 := by
      intro x hx
      obtain ⟨h0, h1⟩ := U.key x hx
      have := hl.1 h0
      rw [getD_of (show i < bs.length by omega)] at this
      omega
    have eE : endAt bs (i + 1) = bs[i].2.2 := by simp only [endAt]; rw [getD_of (show i < bs.length by omega)]
    refine ⟨?_, ?_, ?_, ?_, ?_⟩
    · rw [prs_take_succ (by omega), eE, List.length_append, List.length_map]
      have := U.len
      omega
    · rw [prs_take_succ (by omega), eE, List.map_append, U.snd, List.map_map]
      have e1 : ((fun x : Pr => x.2) ∘ fun n => (bs[i].1, n)) = id := rfl
      rw [e1, List.map_id]
      unfold lvs
      rw [← hb.2.1]
      have e2 : bs[i].2.2.toNat = bs[i].2.1.toNat + (bs[i].2.2.toNat - bs[i].2.1.toNat) := by omega
      conv => rhs; rw [e2]
      rw [List.take_add]
    · rw [prs_take_succ (by omega)]
      refine run_app U.run ?_ ?_
      · unfold Run
        rw [List.pairwise_map]
        exact hR.imp fun {a b} hab => .inr ⟨rfl, hab⟩
      · intro x hx y hy
        obtain ⟨n, _, rfl⟩ := List.mem_map.1 hy
        exact .inl (hlt x hx)
    · rw [prs_take_succ (by omega)]
      intro x hx
      refine ⟨by omega, ?_⟩
      rw [show i + 1 - 1 = i by omega, getD_of (show i < bs.length by omega)]
      rcases List.mem_append.1 hx with hx | hx
      · have := hlt x hx; omega
      · obtain ⟨n, _, rfl⟩ := List.mem_map.1 hx
        exact Int.le_refl _
    · rw [prs_take_succ (by omega), bof_block hne hlt, U.bof, List.take_succ_eq_append_getElem (show i < bs.length by omega)]
      congr 2
      have := U.len
      have e3 : bs[i] = (bs[i].1, bs[i].2.1, bs[i].2.2) := rfl
      conv => rhs; rw [e3]
      congr 2
      · omega
      · omega
/-- A trie that may be is that of its run. -/
structure Tri (bs : List Br) (lv : List Int) (L : List Pr) : Prop where
  run : Run L
  len : L.length ≤ 1048576
  prs : prs bs lv = L
  bof : bof L = bs
  snd : L.map (·.2) = lv
theorem tri {bs : List Br} {lv : List Int} (h : ok7 bs lv) : Tri bs lv (prs bs lv) := by
  have U := upto h.2.1 h.2.2 bs.length (Nat.le_refl _)
  have e := h.2.1.2
  have h1 := U.len
  have h2 := U.snd
  have h3 := U.run
  have h5 := U.bof
  rw [List.take_length] at h1 h2 h3 h5
  rw [e] at h1 h2
  refine ⟨h3, by have := h.1; omega, rfl, h5, ?_⟩
  rw [h2]
  simp
theorem Tri.lenL {bs : List Br} {lv : List Int} {L : List Pr} (h : Tri bs lv L) : L.length = lv.length := by rw [← h.snd, List.length_map]
theorem Tri.keys {bs : List Br} {lv : List Int} {L : List Pr} (h : Tri bs lv L) : bs.map (·.1) = dd (L.map (·.1)) := by rw [← h.bof, bof_keys]

/-! ### The trie of a run may be -/
theorem endAt_snoc (bs : List Br) (b : Br) : endAt (bs ++ [b]) (bs ++ [b]).length = b.2.2 := by
  rw [List.length_append]
  simp [endAt, List.getD]
theorem endAt_old {bs : List Br} (b : Br) : ∀ {i : Nat}, i ≤ bs.length → endAt (bs ++ [b]) i = endAt bs i
  | 0, _ => rfl
  | i + 1, h => by simp only [endAt]; rw [getD_of (by simp; omega), getD_of (show i < bs.length by omega), List.getElem_append_left]
theorem lvs_old {lv : List Int} (m : List Int) {b : Br} (h0 : b.2.1 ≤ b.2.2) (h : b.2.2 ≤ lv.length) : lvs (lv ++ m) b = lvs lv b := by
  unfold lvs
  rw [List.drop_append_of_le_length (by omega), List.take_append_of_le_length (by simp; omega)]
theorem ok_block {bs : List Br} {lv : List Int} (h : Chd lv.length bs) (hr : ∀ b ∈ bs, Rises (lvs lv b)) {k : Int} {m : List Int} (hm : m ≠ []) (hmr : Rises m) (hk : ∀ b ∈ bs, b.1 < k) :
    Chd (lv ++ m).length (bs ++ [(k, (lv.length : Int), (lv.length : Int) + m.length)]) ∧ (∀ b ∈ bs ++ [(k, (lv.length : Int), (lv.length : Int) + m.length)], Rises (lvs (lv ++ m) b)) ∧
    prs (bs ++ [(k, (lv.length : Int), (lv.length : Int) + m.length)]) (lv ++ m) = prs bs lv ++ m.map fun n => (k, n) := by
  have hm1 : 0 < m.length := List.length_pos_iff.2 hm
  have eN : lvs (lv ++ m) (k, (lv.length : Int), (lv.length : Int) + m.length) = m := by
    unfold lvs
    simp only [Int.toNat_natCast]
    rw [show ((lv.length : Int) + m.length).toNat - lv.length = m.length by omega, List.drop_left, List.take_length]
  have eO : ∀ b ∈ bs, lvs (lv ++ m) b = lvs lv b := by
    intro b hb
    obtain ⟨i, hi, rfl⟩ := List.getElem_of_mem hb
    have := h.br hi
    exact lvs_old m (by omega) this.2.2.2
  refine ⟨⟨?_, ?_⟩, ?_, ?_⟩
  · intro i hi
    rw [List.length_append, List.length_singleton] at hi
    by_cases c : i < bs.length
    · have h1 := h.1 i c
      unfold Lnk at h1 ⊢
      rw [endAt_old _ (by omega), getD_of (bs := bs ++ [_]) (i := i) (by simp; omega), getD_of (bs := bs ++ [_]) (i := i - 1) (by simp; omega), List.getElem_append_left c, List.getElem_append_left (show i - 1 < bs.length by omega)]
      rw [getD_of c, getD_of (show i - 1 < bs.length by omega)] at h1
      refine ⟨h1.1, h1.2.1, h1.2.2.1, ?_⟩
      have := h1.2.2.2
      rw [List.length_append]
      omega
    · obtain rfl : i = bs.length := by omega
      unfold Lnk
      rw [endAt_old _ (Nat.le_refl _), h.2]
      have e : (bs ++ [((k, (lv.length : Int), (lv.length : Int) + m.length) : Br)]).getD bs.length (0, 0, 0) = (k, (lv.length : Int), (lv.length : Int) + m.length) := by simp [List.getD]
      rw [e]
      refine ⟨fun h0 => ?_, rfl, by simp only; omega, by simp⟩
      rw [getD_of (show bs.length - 1 < (bs ++ [_]).length by simp; omega), List.getElem_append_left (show bs.length - 1 < bs.length by omega)]
      exact hk _ (by simp)
  · rw [endAt_snoc]; simp
  · intro b hb
    rcases List.mem_append.1 hb with hb | hb
    · rw [eO b hb]; exact hr b hb
    · rw [List.mem_singleton.1 hb, eN]; exact hmr
  · unfold prs
    rw [List.flatMap_append]
    congr 1
    · rw [List.flatMap_def, List.flatMap_def]
      congr 1
      refine List.map_congr_left fun b hb => ?_
      rw [eO b hb]
    · simp [eN]
theorem of_run : ∀ (n : Nat) (l : List Pr), l.length = n → Run l → Chd (l.map (·.2)).length (bof l) ∧ (∀ b ∈ bof l, Rises (lvs (l.map (·.2)) b)) ∧ prs (bof l) (l.map (·.2)) = l := by
  intro n
  induction n using Nat.strongRecOn with
  | _ n ih =>
    intro l hn hr
    by_cases h0 : l = []
    · subst h0
      exact ⟨⟨by simp [bof_nil], by simp [bof_nil, endAt]⟩, by simp [bof_nil], by simp [bof_nil, prs]⟩
    · have hpos : 0 < l.length := List.length_pos_iff.2 h0
      obtain ⟨k, hk⟩ : ∃ k, k = (l[l.length - 1]'(by omega)).1 := ⟨_, rfl⟩
      have hle : ∀ x ∈ l, x.1 ≤ k := by
        intro x hx
        obtain ⟨i, hi, rfl⟩ := List.getElem_of_mem hx
        rw [hk]
        exact run_key hr hi (by omega) (by omega)
      have e := run_last hr hle
      obtain ⟨M, hM⟩ : ∃ M, M = (l.filter fun x => decide (x.1 = k)).map (·.2) := ⟨_, rfl⟩
      obtain ⟨A, hA⟩ : ∃ A, A = l.filter (fun x => decide (x.1 < k)) := ⟨_, rfl⟩
      have hM0 : M ≠ [] := by
        rw [hM]
        intro e0
        have : l[l.length - 1] ∈ l.filter fun x => decide (x.1 = k) := List.mem_filter.2 ⟨by simp, by simp [hk]⟩
        rw [List.map_eq_nil_iff.1 e0] at this
        simp at this
      have hAk : ∀ x ∈ A, x.1 < k := by
        intro x hx
        rw [hA] at hx
        simpa using (List.mem_filter.1 hx).2
      have hMr : Rises M := by
        rw [hM]
        unfold Rises
        rw [List.pairwise_map]
        refine (List.pairwise_iff_getElem.2 ?_)
        intro i j hi hj hij
        have hf := filt_run hr (fun x => decide (x.1 = k))
        have h1 := hf.at hi hj hij
        have m1 : (l.filter fun x => decide (x.1 = k))[i] ∈ l.filter fun x => decide (x.1 = k) := by simp
        have m2 : (l.filter fun x => decide (x.1 = k))[j] ∈ l.filter fun x => decide (x.1 = k) := by simp
        have m1 := (List.mem_filter.1 m1).2
        have m2 := (List.mem_filter.1 m2).2
        simp only [decide_eq_true_eq] at m1 m2
        unfold lt2 at h1
        omega
      have hAr : Run A := by rw [hA]; exact filt_run hr _
      rw [← hM, ← hA] at e
      have hM1 : 0 < M.length := List.length_pos_iff.2 hM0
      have hlen : l.length = A.length + M.length := by
        conv => lhs; rw [e]
        rw [List.length_append, List.length_map]
      obtain ⟨i1, i2, i3⟩ := ih A.length (by omega) A rfl hAr
      have hkb : ∀ b ∈ bof A, b.1 < k := by
        intro b hb
        have : b.1 ∈ (bof A).map (·.1) := List.mem_map.2 ⟨b, hb, rfl⟩
        rw [bof_keys, dd_mem] at this
        obtain ⟨x, hx, e⟩ := List.mem_map.1 this
        rw [← e]
        exact hAk x hx
      have hB := ok_block i1 i2 hM0 hMr hkb
      rw [i3] at hB
      have e1 : bof l = bof A ++ [(k, ((A.map (·.2)).length : Int), ((A.map (·.2)).length : Int) + M.length)] := by
        conv => lhs; rw [e]
        rw [bof_block hM0 hAk, List.length_map]
      have e2 : l.map (·.2) = A.map (·.2) ++ M := by
        conv => lhs; rw [e]
        rw [List.map_append, List.map_map]
        congr 1
        exact List.map_id _
      rw [e1, e2]
      refine ⟨hB.1, hB.2.1, hB.2.2.trans e.symm⟩
theorem tri_of {l : List Pr} (h : okP l) : Tri (bof l) (l.map (·.2)) l ∧ ok7 (bof l) (l.map (·.2)) := by
  obtain ⟨h1, h2, h3⟩ := of_run _ l rfl h.1
  exact ⟨⟨h.1, h.2, h3, rfl, rfl⟩, by simpa using h.2, h1, h2⟩
end Go.Proofs.Kit

