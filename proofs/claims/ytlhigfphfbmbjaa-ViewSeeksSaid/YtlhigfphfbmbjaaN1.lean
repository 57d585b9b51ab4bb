/- Slices of pairs as lists, and rows of pairs that a call owns: no program is named here. -/
import Derived.Test.YtlhigfphfbmbjaaN0
import Derived.Test.YtlhigfphfbmbjaaSegB
namespace Go.Proofs.Kit
open Go.RowKit

def flat : List Pr → List Value
  | [] => []
  | p :: t => .int .u64 p.1 :: .int .u64 p.2 :: flat t
theorem flat_length : ∀ l : List Pr, (flat l).length = l.length * 2
  | [] => rfl
  | _ :: t => by simp [flat, flat_length t]; omega
theorem flat_get : ∀ (l : List Pr) (k : Nat) (h : k < l.length), (flat l)[k * 2]? = some (.int .u64 l[k].1) ∧ (flat l)[k * 2 + 1]? = some (.int .u64 l[k].2)
  | _ :: _, 0, _ => ⟨rfl, rfl⟩
  | p :: t, k + 1, h => by
    have := flat_get t k (by simpa using h)
    simpa [flat, Nat.add_mul] using this
theorem flat_one : ∀ (l : List Pr) (u : Value), u ∈ flat l → u.oneCell' = true
  | p :: t, u, h => by
    simp only [flat, List.mem_cons] at h
    rcases h with rfl | rfl | h
    · rfl
    · rfl
    · exact flat_one t u h
theorem flat_append : ∀ (a b : List Pr), flat (a ++ b) = flat a ++ flat b
  | [], _ => rfl
  | p :: t, b => by simp [flat, flat_append t b]
theorem flat_take : ∀ (l : List Pr) (n : Nat), flat (l.take n) = (flat l).take (n * 2)
  | [], n => by simp [flat]
  | _ :: _, 0 => by simp [flat]
  | p :: t, n + 1 => by
    rw [List.take_succ_cons, flat, flat, flat_take t n, show (n + 1) * 2 = n * 2 + 1 + 1 by omega, List.take_succ_cons, List.take_succ_cons]
theorem flat_set : ∀ (l : List Pr) (i : Nat) (x : Pr), flat (l.set i x) = ((flat l).set (i * 2) (.int .u64 x.1)).set (i * 2 + 1) (.int .u64 x.2)
  | [], i, x => by simp [flat]
  | p :: t, 0, x => by simp [flat]
  | p :: t, i + 1, x => by
    rw [List.set_cons_succ, flat, flat, flat_set t i x, show (i + 1) * 2 = i * 2 + 1 + 1 by omega]
    simp [List.set_cons_succ]

/-- The cells from off on in block b are these pairs. -/
def PCells (w : World) (b off : Nat) (l : List Pr) : Prop :=
  ∀ i (h : i < l.length), w.cell? ⟨b, off + i * 2, none⟩ = some (.int .u64 l[i].1) ∧ w.cell? ⟨b, off + i * 2 + 1, none⟩ = some (.int .u64 l[i].2)
/-- In the world w the value v is a slice of these pairs. -/
def SegP (w : World) (v : Value) (l : List Pr) : Prop :=
  l.length ≤ 4611686018427387903 ∧ ((v = .slice none 0 0 ∧ l = []) ∨ ∃ b off cap, v = .slice (some ⟨b, off, none⟩) l.length cap ∧ l.length ≤ cap ∧ cap ≤ 9223372036854775807 ∧ b < w.heap.size ∧ PCells w b off l)
section
variable {w w' : World} {v : Value} {l : List Pr}
theorem PCells.below {b off B : Nat} (h : PCells w b off l) (hb : Below B w w') (hB : b < B) : PCells w' b off l := fun i hi =>
  ⟨(hb.cell (p := ⟨b, off + i * 2, none⟩) hB).trans (h i hi).1, (hb.cell (p := ⟨b, off + i * 2 + 1, none⟩) hB).trans (h i hi).2⟩
theorem SegP.below {B : Nat} (h : SegP w v l) (hb : Below B w w') (hB : w.heap.size ≤ B) : SegP w' v l := by
  refine ⟨h.1, ?_⟩
  rcases h.2 with h | ⟨b, off, cap, h1, h2, h3, h4, h5⟩
  · exact .inl h
  · exact .inr ⟨b, off, cap, h1, h2, h3, Nat.lt_of_lt_of_le h4 hb.size, h5.below hb (Nat.lt_of_lt_of_le h4 hB)⟩
theorem SegP.later (h : SegP w v l) (hb : Below w.heap.size w w') : SegP w' v l := h.below hb (Nat.le_refl _)
theorem SegP.alloc (h : SegP w v l) (o : Obj) : SegP (w.alloc o) v l := h.later ((Below.refl _ _).alloc (Nat.le_refl _) _)
theorem SegP.drew (h : SegP w v l) : SegP w.drew v l := h.later (Below.refl _ _).drew
theorem SegP.drewN (h : SegP w v l) (n : Nat) : SegP (w.drewN n) v l := h.later (below_drN (Below.refl _ _) n)
theorem SegP.nil (w : World) : SegP w (.slice none 0 0) [] := ⟨by simp, .inl ⟨rfl, rfl⟩⟩
/-- What a slice's value looks like. -/
theorem SegP.shape (h : SegP w v l) : ∃ o cap, v = .slice o l.length cap ∧ l.length ≤ cap ∧ cap ≤ 9223372036854775807 ∧ (l = [] ∨ ∃ b off, o = some ⟨b, off, none⟩ ∧ b < w.heap.size ∧ PCells w b off l) := by
  rcases h.2 with ⟨rfl, rfl⟩ | ⟨b, off, cap, rfl, h2, h3, h4, h5⟩
  · exact ⟨none, 0, rfl, by simp, by simp, .inl rfl⟩
  · exact ⟨_, cap, rfl, h2, h3, .inr ⟨b, off, rfl, h4, h5⟩⟩
theorem PCells.sub {b f p q : Nat} (h : PCells w b f l) (hp : p ≤ q) (hq : q ≤ l.length) : PCells w b (f + p * 2) ((l.drop p).take (q - p)) := fun i hi => by
  have hl : ((l.drop p).take (q - p)).length = q - p := by simp; omega
  have := h (p + i) (by omega)
  rw [show f + p * 2 + i * 2 = f + (p + i) * 2 by omega]
  simpa using this
theorem SegP.sub {b f c c' p q : Nat} (h : SegP w (.slice (some ⟨b, f, none⟩) l.length c) l) (hp : p ≤ q) (hq : q ≤ l.length) (hc : q - p ≤ c') (hc' : c' ≤ 9223372036854775807) : SegP w (.slice (some ⟨b, f + p * 2, none⟩) (q - p) c') ((l.drop p).take (q - p)) := by
  have hl : ((l.drop p).take (q - p)).length = q - p := by simp; omega
  rcases h.2 with ⟨h1, _⟩ | ⟨b', off, cap, h1, h2, h3, h4, h5⟩
  · injection h1 with e1; cases e1
  · injection h1 with e1 _ e3
    injection e1 with e1
    injection e1 with e1 e2 _
    subst e1 e2 e3
    exact ⟨by have := h.1; omega, .inr ⟨b, f + p * 2, c', by rw [hl], by omega, hc', h4, h5.sub hp hq⟩⟩
/-- A slice of a whole block. -/
theorem SegP.of_blk {b cap : Nat} {vs : Array Value} {t : TypeId} (hb : Blk w b vs t) (hl : l.length ≤ cap) (hc : cap ≤ 4611686018427387903) (hv : vs.toList.take (l.length * 2) = flat l) : SegP w (.slice (some ⟨b, 0, none⟩) l.length cap) l := by
  refine ⟨by omega, .inr ⟨b, 0, cap, rfl, hl, by omega, hb.lt, fun i hi => ?_⟩⟩
  have hf := flat_get l i hi
  rw [← hv] at hf
  rw [List.getElem?_take_of_lt (by omega), List.getElem?_take_of_lt (by omega)] at hf
  rw [hb.cell, hb.cell, Nat.zero_add]
  simpa using hf
end

/-- A slice of these pairs that lies in a row of the call's own, not below B. -/
def OwnP (t : TypeId) (B : Nat) (w : World) (v : Value) (l : List Pr) : Prop := l.length ≤ 4611686018427387903 ∧ w.ownsRow B t 2 v l.length (flat l)
section
variable {t : TypeId} {B : Nat} {w w' : World} {v : Value} {l : List Pr}
theorem OwnP.nil (t : TypeId) (B : Nat) (w : World) : OwnP t B w (.slice none 0 0) [] := ⟨by simp, World.ownsRow_nil w B t 2⟩
theorem OwnP.len (h : OwnP t B w v l) : l.length ≤ 4611686018427387903 := h.1
theorem OwnP.seg (h : OwnP t B w v l) : SegP w v l := by
  refine ⟨h.len, ?_⟩
  rcases h.2.2 with ⟨h1, h2⟩ | ⟨g, cap, cur, rfl, hg, hb, h1, h2, h3, h4⟩
  · exact .inl ⟨h1, List.length_eq_zero_iff.1 h2⟩
  · refine .inr ⟨g, 0, cap, rfl, h1, by unfold maxLen at h2; omega, (Blk.lt (t := t) hb), fun i hi => ?_⟩
    have hf := flat_get l i hi
    rw [← h4] at hf
    rw [List.getElem?_take_of_lt (by omega), List.getElem?_take_of_lt (by omega)] at hf
    rw [Blk.cell (t := t) hb, Blk.cell (t := t) hb, Nat.zero_add]
    simpa using hf
theorem OwnP.shape (h : OwnP t B w v l) : ∃ o cap, v = .slice o l.length cap := by
  rcases h.2.2 with ⟨h1, h2⟩ | ⟨g, cap, cur, rfl, _⟩
  · exact ⟨none, 0, by rw [h2]; exact h1⟩
  · exact ⟨_, _, rfl⟩
theorem OwnP.lt (h : OwnP t B w v l) : ∀ k, v.ownBlock = some k → B ≤ k ∧ k < w.heap.size := h.2.lt
theorem OwnP.mono {B' : Nat} (h : OwnP t B w v l) (hB : B' ≤ B) : OwnP t B' w v l := by
  refine ⟨h.1, h.2.1, ?_⟩
  rcases h.2.2 with h | ⟨g, cap, cur, h1, hg, h⟩
  · exact .inl h
  · exact .inr ⟨g, cap, cur, h1, Nat.le_trans hB hg, h⟩
theorem OwnP.same (h : OwnP t B w v l) (hs : ∀ g, v.ownBlock = some g → w'.heap[g]? = w.heap[g]?) : OwnP t B w' v l := by
  refine ⟨h.1, h.2.1, ?_⟩
  rcases h.2.2 with h | ⟨g, cap, cur, rfl, hg, hb, h⟩
  · exact .inl h
  · exact .inr ⟨g, cap, cur, rfl, hg, (hs g rfl).trans hb, h⟩
theorem OwnP.later (h : OwnP t B w v l) (hb : Below w.heap.size w w') : OwnP t B w' v l := h.same fun g hg => hb.block g (h.lt g hg).2
theorem OwnP.drew (h : OwnP t B w v l) : OwnP t B w.drew v l := h
theorem OwnP.drewN (h : OwnP t B w v l) (n : Nat) : OwnP t B (w.drewN n) v l := h
theorem OwnP.alloc (h : OwnP t B w v l) (o : Obj) : OwnP t B (w.alloc o) v l := h.later ((Below.refl _ _).alloc (Nat.le_refl _) _)
theorem OwnP.ne_blk {b : Nat} {vs : Array Value} {t' : TypeId} (h : OwnP t B w v l) (hb : Blk w b vs t') (ht : t ≠ t') : v.ownBlock ≠ some b := by
  intro e
  rcases h.2.2 with ⟨rfl, _⟩ | ⟨g, cap, cur, rfl, hg, hh, _⟩
  · simp [Value.ownBlock] at e
  · simp [Value.ownBlock] at e
    subst e
    rw [show w.heap[g]? = _ from hb] at hh
    injection hh with hh
    injection hh with _ h2 _
    exact ht h2.symm
/-- A block of the call's own, laid just now. -/
theorem OwnP.new {vs : Array Value} (hB : B ≤ w.heap.size) (hv : vs = (flat l).toArray) (hm : l.length ≤ 4611686018427387903) : OwnP t B (w.alloc (.cells vs t)) (.slice (some ⟨w.heap.size, 0, none⟩) l.length l.length) l := by
  subst hv
  refine ⟨hm, flat_length l, .inr ⟨w.heap.size, l.length, _, rfl, hB, heap_alloc_new w _, Nat.le_refl _, by unfold maxLen; omega, by simp [flat_length], ?_⟩⟩
  rw [← flat_length]
  simp
/-- Cells of a row, told by its block. -/
theorem OwnP.blk (h : OwnP t B w v l) (hl : 0 < l.length) : ∃ g cap cur, v = .slice (some ⟨g, 0, none⟩) l.length cap ∧ l.length ≤ cap ∧ cap ≤ 9223372036854775807 ∧ cur.size = cap * 2 ∧ B ≤ g ∧ Blk w g cur t ∧ cur.toList.take (l.length * 2) = flat l := by
  rcases h.2.2 with ⟨_, h2⟩ | ⟨g, cap, cur, rfl, hg, hb, h1, h2, h3, h4⟩
  · omega
  · exact ⟨g, cap, cur, rfl, h1, by unfold maxLen at h2; omega, h3, hg, hb, h4⟩
theorem OwnP.of_blk {g cap : Nat} {cur : Array Value} (hB : B ≤ g) (hb : Blk w g cur t) (hl : l.length ≤ cap) (hm : cap ≤ 9223372036854775807) (h2 : l.length ≤ 4611686018427387903) (hs : cur.size = cap * 2) (ht : cur.toList.take (l.length * 2) = flat l) : OwnP t B w (.slice (some ⟨g, 0, none⟩) l.length cap) l :=
  ⟨h2, flat_length l, .inr ⟨g, cap, cur, rfl, hB, hb, hl, by unfold maxLen; omega, hs, ht⟩⟩
/-- A store of a pair into the row. -/
theorem OwnP.set {i : Nat} (h : OwnP t B w v l) (hi : i < l.length) (x : Pr) : ∃ g cap, v = .slice (some ⟨g, 0, none⟩) l.length cap ∧ l.length ≤ cap ∧ cap ≤ 9223372036854775807 ∧ B ≤ g ∧ g < w.heap.size ∧ PCells w g 0 l ∧ (∀ j, w.frozen? ⟨g, j, none⟩ = false) ∧ OwnP t B ((w.setCell ⟨g, i * 2, none⟩ (.int .u64 x.1)).setCell ⟨g, i * 2 + 1, none⟩ (.int .u64 x.2)) v (l.set i x) := by
  obtain ⟨g, cap, cur, rfl, h1, h2, h3, hg, hb, h4⟩ := h.blk (by omega)
  refine ⟨g, cap, rfl, h1, h2, hg, hb.lt, ?_, fun j => hb.frozen j, ?_⟩
  · intro j hj
    have hf := flat_get l j hj
    rw [← h4] at hf
    rw [List.getElem?_take_of_lt (by omega), List.getElem?_take_of_lt (by omega)] at hf
    rw [hb.cell, hb.cell, Nat.zero_add]
    simpa using hf
  · have := OwnP.of_blk (l := l.set i x) hg ((hb.set (i * 2) (.int .u64 x.1)).set (i * 2 + 1) (.int .u64 x.2)) (cap := cap) (by simpa using h1) h2 (by have := h.1; simpa using this) (by simpa using h3) (by
      rw [flat_set, List.length_set, ← h4]
      simp only [Array.toList_setIfInBounds, List.take_set])
    simpa using this
end
/-- append of a slice of pairs onto a row of the call's own. -/
theorem wpList_append_segP {P : Program} {w : World} {ops : Array Oper} {rest : List Oper} {o : Oper} {a : Act} {Q : Exit → Act → World → Prop} (hgd : o.guard = none) (s x : Operand) (t : TypeId)
    (ho : o.op = .call { callee := .builtin .append, args := #[s, x], argTypes := #[t, t] })
    (base : Nat) (e : TypeId) (i : TypeInfo) (z : Value) (ht : P.underlying t = some (.slice e)) (hi : P.info? e = some i) (hz : i.zero = some z) (hsize : i.size = 2) (hby : i.bytes = 16) (hzs : z.cells.size = 2)
    (v : Value) (l : List Pr) (hs : a.eval s = v) (hown : OwnP e base w v l) (vx : Value) (m : List Pr) (hx : a.eval x = vx) (hm : SegP w vx m)
    (h63 : l.length + m.length ≤ 8000000000000) (hbase : base ≤ w.heap.size)
    (h : ∀ v' w', OwnP e base w' v' (l ++ m) → Below base w w' → w.grownBy w' v.ownBlock → (m ≠ [] ∨ v ≠ .slice none 0 0 → v' ≠ .slice none 0 0) → wpList P ops Q rest (a.put o.dst v') w') : wpList P ops Q (o :: rest) a w := by
  rcases hm.2 with ⟨rfl, rfl⟩ | ⟨b, f, c, rfl, h2, h3, h4, h5⟩
  · exact wpList_append_own_none hgd s x t ho base e i 2 ht hi v _ _ hs hown.2 hx (h v w (by simpa using hown) (Below.refl _ _) (World.grownBy.refl _ _) (fun h => h.resolve_left (fun h => h rfl)))
  · refine wpList_append_own w hgd s x t ho base e i z 2 16 ht hi hz hsize hby hzs (by decide) v _ _ hs hown.2 ⟨b, f, none⟩ m.length c (flat m) hx (flat_length m) ?_ (flat_one m) (by unfold maxLen; omega) (by omega) hbase ?_
    · intro j u hj
      have hjn : j < m.length * 2 := by have := (List.getElem?_eq_some_iff.1 hj).1; rwa [flat_length] at this
      have hk : j / 2 < m.length := by omega
      rw [Addr.add_lit]
      rcases Nat.mod_two_eq_zero_or_one j with h | h
      · have e : j = j / 2 * 2 := by omega
        rw [e] at hj ⊢
        rw [(h5 _ hk).1, ← hj, (flat_get m _ hk).1]
      · have e : j = j / 2 * 2 + 1 := by omega
        rw [e] at hj ⊢
        rw [show f + (j / 2 * 2 + 1) = f + j / 2 * 2 + 1 from rfl, (h5 _ hk).2, ← hj, (flat_get m _ hk).2]
    · intro v' w' hO hG hn
      refine h v' w' ⟨by rw [List.length_append]; omega, ?_⟩ ((Below.refl _ _).grown hG hbase (fun g hg => (hown.lt g hg).1)) hG ?_
      · rw [List.length_append, flat_append]
        exact hO
      · intro hh e
        obtain ⟨e1, e2⟩ := hn.1 e
        rcases hh with hh | hh
        · exact hh (List.length_eq_zero_iff.1 e2)
        · exact hh e1
end Go.Proofs.Kit

