/- Tiers as they lie: two slices of pairs side by side; rows of them, a call's own, too. No program is named here. -/
import Derived.Test.YtlhigfphfbmbjaaX1n
import Derived.Test.YtlhigfphfbmbjaaN3
namespace Go.Proofs.Kit
open Go.RowKit
abbrev Tr := List Pr × List Pr
/-- A tier as it lies. -/
structure Ti where
  ao : Option Addr
  an : Nat
  ac : Nat
  bo : Option Addr
  bn : Nat
  bc : Nat
abbrev Ti.av (x : Ti) : Value := .slice x.ao x.an x.ac
abbrev Ti.bv (x : Ti) : Value := .slice x.bo x.bn x.bc
def tiE : Enc Ti where
  k := 2
  f x := [.slice x.ao x.an x.ac, .slice x.bo x.bn x.bc]
  len _ := rfl
  one x u h := by simp at h; rcases h with rfl | rfl <;> rfl
  pos := by decide
/-- In the world w this tier lies so. -/
structure TR (w : World) (x : Ti) (t : Tr) : Prop where
  a : SegP w (.slice x.ao x.an x.ac) t.1
  b : SegP w (.slice x.bo x.bn x.bc) t.2
theorem TR.below {w w' : World} {x : Ti} {t : Tr} {B : Nat} (h : TR w x t) (hb : Below B w w') (hB : w.heap.size ≤ B) : TR w' x t := ⟨h.a.below hb hB, h.b.below hb hB⟩
theorem TR.later {w w' : World} {x : Ti} {t : Tr} (h : TR w x t) (hb : Below w.heap.size w w') : TR w' x t := h.below hb (Nat.le_refl _)
theorem SegP.len_n {w : World} {o : Option Addr} {n c : Nat} {l : List Pr} (h : SegP w (.slice o n c) l) : l.length = n ∧ n ≤ c ∧ c ≤ 9223372036854775807 := by
  rcases h.2 with ⟨h1, rfl⟩ | ⟨b, off, cap, h1, h2, h3, _⟩
  · injection h1 with _ e2 e3
    subst e2 e3
    simp
  · injection h1 with _ e2 e3
    subst e2 e3
    exact ⟨rfl, h2, h3⟩
/-- In the world w the value v is a slice of these tiers. -/
def SegT (w : World) (v : Value) (L : List Tr) : Prop := ∃ l, SegE tiE w v l ∧ l.length = L.length ∧ ∀ i (h : i < l.length) (h' : i < L.length), TR w l[i] L[i]
section
variable {w w' : World} {v : Value} {L : List Tr}
theorem SegT.below {B : Nat} (h : SegT w v L) (hb : Below B w w') (hB : w.heap.size ≤ B) : SegT w' v L := by
  obtain ⟨l, h1, h2, h3⟩ := h
  exact ⟨l, h1.below hb hB, h2, fun i a b => (h3 i a b).below hb hB⟩
theorem SegT.later (h : SegT w v L) (hb : Below w.heap.size w w') : SegT w' v L := h.below hb (Nat.le_refl _)
theorem SegT.gr (h : SegT w v L) (hb : Gr w w') : SegT w' v L := h.later hb.below
theorem SegT.alloc (h : SegT w v L) (o : Obj) : SegT (w.alloc o) v L := h.gr (Gr.alloc _ _)
theorem SegT.drew (h : SegT w v L) : SegT w.drew v L := h.gr (Gr.drew _)
theorem SegT.drewN (h : SegT w v L) (n : Nat) : SegT (w.drewN n) v L := h.gr (Gr.drewN _ _)
theorem SegT.nil (w : World) : SegT w (.slice none 0 0) [] := ⟨[], SegE.nil _ _, rfl, fun i h _ => by simp at h⟩
theorem SegT.shape (h : SegT w v L) : ∃ o c, v = .slice o L.length c ∧ L.length ≤ c ∧ c ≤ 9223372036854775807 := by
  obtain ⟨l, h1, h2, _⟩ := h
  obtain ⟨o, c, rfl, a, b, _⟩ := h1.shape
  exact ⟨o, c, by rw [h2], by omega, b⟩
theorem SegT.len (h : SegT w v L) : L.length ≤ 4611686018427387903 := by
  obtain ⟨l, h1, h2, _⟩ := h
  have := h1.1
  simp only [tiE] at this
  omega
/-- One of them, as it lies. -/
theorem SegT.at {o : Option Addr} {n c i : Nat} (h : SegT w (.slice o n c) L) (hi : i < L.length) : ∃ b f x, o = some ⟨b, f, none⟩ ∧ L.length = n ∧ b < w.heap.size ∧
    w.cell? ⟨b, f + i * 2, none⟩ = some (.slice x.ao x.an x.ac) ∧ w.cell? ⟨b, f + i * 2 + 1, none⟩ = some (.slice x.bo x.bn x.bc) ∧ TR w x L[i] := by
  obtain ⟨l, h1, h2, h3⟩ := h
  have hil : i < l.length := by omega
  obtain ⟨b, f, rfl, hn, _, _, hb, hc⟩ := h1.has hil
  exact ⟨b, f, l[i], rfl, by omega, hb, hc i hil 0 _ rfl, hc i hil 1 _ rfl, h3 i hil hi⟩
/-- Some of them. -/
theorem SegT.sub {o : Option Addr} {n c p q : Nat} (h : SegT w (.slice o n c) L) (hp : p < q) (hq : q ≤ L.length) : ∃ b f, o = some ⟨b, f, none⟩ ∧ SegT w (.slice (some ⟨b, f + p * 2, none⟩) (q - p) (c - p)) ((L.drop p).take (q - p)) := by
  obtain ⟨l, h1, h2, h3⟩ := h
  obtain ⟨b, f, rfl, hn, hnc, hc, hb, hcell⟩ := h1.has (show p < l.length by omega)
  have hl : ((l.drop p).take (q - p)).length = q - p := by simp; omega
  refine ⟨b, f, rfl, (l.drop p).take (q - p), ⟨by have := h1.1; rw [hl]; simp only [tiE] at *; omega, .inr ⟨b, f + p * 2, c - p, by rw [hl], by omega, by omega, hb, fun i hi j u hu => ?_⟩⟩, by rw [hl]; simp; omega, fun i a a' => ?_⟩
  · have hi' : p + i < l.length := by omega
    have := hcell (p + i) hi' j u (by rw [← hu]; simp)
    rw [← this]
    congr 2
    simp only [tiE]
    omega
  · have := h3 (p + i) (by omega) (by simp at a'; omega)
    simpa using this
end
/-- A slice of these tiers in a row of the call's own, their own rows the call's own, too. -/
def OwnT (tp tt : TypeId) (B : Nat) (w : World) (v : Value) (L : List Tr) : Prop := ∃ l, OwnE tiE tt B w v l ∧ l.length = L.length ∧ ∀ i (h : i < l.length) (h' : i < L.length), OwnP tp B w (.slice l[i].ao l[i].an l[i].ac) L[i].1 ∧ OwnP tp B w (.slice l[i].bo l[i].bn l[i].bc) L[i].2
section
variable {tp tt : TypeId} {B : Nat} {w w' : World} {v : Value} {L : List Tr}
theorem OwnT.seg (h : OwnT tp tt B w v L) : SegT w v L := by
  obtain ⟨l, h1, h2, h3⟩ := h
  exact ⟨l, h1.seg, h2, fun i a b => ⟨(h3 i a b).1.seg, (h3 i a b).2.seg⟩⟩
theorem OwnT.later (h : OwnT tp tt B w v L) (hb : Below w.heap.size w w') : OwnT tp tt B w' v L := by
  obtain ⟨l, h1, h2, h3⟩ := h
  exact ⟨l, h1.later hb, h2, fun i a b => ⟨(h3 i a b).1.later hb, (h3 i a b).2.later hb⟩⟩
theorem OwnT.gr (h : OwnT tp tt B w v L) (hb : Gr w w') : OwnT tp tt B w' v L := h.later hb.below
theorem OwnT.alloc (h : OwnT tp tt B w v L) (o : Obj) : OwnT tp tt B (w.alloc o) v L := h.gr (Gr.alloc _ _)
theorem OwnT.drew (h : OwnT tp tt B w v L) : OwnT tp tt B w.drew v L := h.gr (Gr.drew _)
theorem OwnT.mono {B' : Nat} (h : OwnT tp tt B w v L) (hB : B' ≤ B) : OwnT tp tt B' w v L := by
  obtain ⟨l, h1, h2, h3⟩ := h
  exact ⟨l, h1.mono hB, h2, fun i a b => ⟨(h3 i a b).1.mono hB, (h3 i a b).2.mono hB⟩⟩
theorem OwnT.nil (tp tt : TypeId) (B : Nat) (w : World) : OwnT tp tt B w (.slice none 0 0) [] := ⟨[], OwnE.nil _ _ _ _, rfl, fun i h _ => by simp at h⟩
theorem OwnT.shape (h : OwnT tp tt B w v L) : ∃ o c, v = .slice o L.length c := by
  obtain ⟨o, c, e, _⟩ := h.seg.shape
  exact ⟨o, c, e⟩
/-- A tier's rows, the call's own. -/
def OwnQ (tp : TypeId) (B : Nat) (w : World) (x : Ti) (t : Tr) : Prop := OwnP tp B w (.slice x.ao x.an x.ac) t.1 ∧ OwnP tp B w (.slice x.bo x.bn x.bc) t.2
theorem OwnQ.later {x : Ti} {t : Tr} (h : OwnQ tp B w x t) (hb : Below w.heap.size w w') : OwnQ tp B w' x t := ⟨h.1.later hb, h.2.later hb⟩
theorem OwnQ.tr {x : Ti} {t : Tr} (h : OwnQ tp B w x t) : TR w x t := ⟨h.1.seg, h.2.seg⟩
theorem OwnQ.mono {x : Ti} {t : Tr} {B' : Nat} (h : OwnQ tp B w x t) (hB : B' ≤ B) : OwnQ tp B' w x t := ⟨h.1.mono hB, h.2.mono hB⟩
theorem OwnP.grown {l : List Pr} {g : Option Nat} (h : OwnP tp B w v l) (hg : w.grownBy w' g) (hne : ∀ k, v.ownBlock = some k → g ≠ some k) : OwnP tp B w' v l := h.same fun k hk => hg.block k (h.lt k hk).2 (fun e => hne k hk e.symm)
/-- A row of the call's own is no other row's block of another type. -/
theorem OwnP.apart {l : List Pr} {m : List Ti} {v' : Value} (h : OwnP tp B w v l) (h' : OwnE tiE tt B w v' m) (ht : tp ≠ tt) : ∀ k, v.ownBlock = some k → v'.ownBlock ≠ some k := by
  intro k hk
  rcases h.2.2 with ⟨rfl, _⟩ | ⟨g, cap, cur, rfl, _, hb, _⟩
  · simp [Value.ownBlock] at hk
  · simp [Value.ownBlock] at hk
    subst hk
    exact h'.ne_blk hb (Ne.symm ht)
theorem OwnT.one (hB : B ≤ w.heap.size) {x : Ti} {t : Tr} (h : OwnQ tp B w x t) : OwnT tp tt B (w.alloc (.cells #[.slice x.ao x.an x.ac, .slice x.bo x.bn x.bc] tt)) (.slice (some ⟨w.heap.size, 0, none⟩) 1 1) [t] := by
  refine ⟨[x], OwnE.new (E := tiE) (l := [x]) hB rfl (by simp [tiE]), rfl, fun i a b => ?_⟩
  obtain rfl : i = 0 := by simp at a; omega
  exact ⟨h.1.alloc _, h.2.alloc _⟩
/-- One tier more behind a row, laid by append: from the row as it is known to be laid. -/
theorem OwnT.snoc {l : List Ti} {x : Ti} {t : Tr} {v' : Value} (h1 : OwnE tiE tt B w v l) (h2 : l.length = L.length) (h3 : ∀ i (h : i < l.length) (h' : i < L.length), OwnQ tp B w l[i] L[i]) (hx : OwnQ tp B w x t)
    (hn : OwnE tiE tt B w' v' (l ++ [x])) (hg : w.grownBy w' v.ownBlock) (ht : tp ≠ tt) : OwnT tp tt B w' v' (L ++ [t]) := by
  refine ⟨l ++ [x], hn, by simp [h2], fun i a b => ?_⟩
  by_cases e : i < l.length
  · have := h3 i e (by omega)
    rw [List.getElem_append_left e, List.getElem_append_left (by omega)]
    exact ⟨this.1.grown hg (this.1.apart h1 ht), this.2.grown hg (this.2.apart h1 ht)⟩
  · have e' : i = l.length := by simp at a; omega
    subst e'
    simp only [List.getElem_append_right (Nat.le_refl _), Nat.sub_self, List.getElem_cons_zero]
    rw [List.getElem_append_right (by omega)]
    simp only [h2, Nat.sub_self, List.getElem_cons_zero]
    exact ⟨hx.1.grown hg (hx.1.apart h1 ht), hx.2.grown hg (hx.2.apart h1 ht)⟩
/-- .. and several. -/
theorem OwnT.join {l m : List Ti} {M : List Tr} {v' : Value} (h1 : OwnE tiE tt B w v l) (h2 : l.length = L.length) (h3 : ∀ i (h : i < l.length) (h' : i < L.length), OwnQ tp B w l[i] L[i]) (hm : m.length = M.length) (hx : ∀ i (h : i < m.length) (h' : i < M.length), OwnQ tp B w m[i] M[i])
    (hn : OwnE tiE tt B w' v' (l ++ m)) (hg : w.grownBy w' v.ownBlock) (ht : tp ≠ tt) : OwnT tp tt B w' v' (L ++ M) := by
  refine ⟨l ++ m, hn, by simp [h2, hm], fun i a b => ?_⟩
  by_cases e : i < l.length
  · have := h3 i e (by omega)
    rw [List.getElem_append_left e, List.getElem_append_left (by omega)]
    exact ⟨this.1.grown hg (this.1.apart h1 ht), this.2.grown hg (this.2.apart h1 ht)⟩
  · have hi : i - l.length < m.length := by simp at a; omega
    have := hx (i - l.length) hi (by omega)
    rw [List.getElem_append_right (by omega), List.getElem_append_right (by omega)]
    simp only [← h2]
    exact ⟨this.1.grown hg (this.1.apart h1 ht), this.2.grown hg (this.2.apart h1 ht)⟩
end
end Go.Proofs.Kit
namespace Go.Proofs.Ytlhigfphfbmbjaa
open Go.RowKit Go.Proofs.Kit
/-- An argument that is a slice of tiers. -/
def ArgT (w : World) (o : Option Addr) (c : Nat) (L : List Tr) : Prop := ∃ l : List Ti, ArgE tiE w o c l ∧ l.length = L.length ∧ ∀ i (h : i < l.length) (h' : i < L.length),
  (L[i].1.length = l[i].an ∧ l[i].an ≤ l[i].ac ∧ l[i].ac ≤ 9223372036854775807 ∧ ArgP w l[i].ao l[i].ac L[i].1) ∧ (L[i].2.length = l[i].bn ∧ l[i].bn ≤ l[i].bc ∧ l[i].bc ≤ 9223372036854775807 ∧ ArgP w l[i].bo l[i].bc L[i].2)
theorem ArgT.later {w w' : World} {o : Option Addr} {c : Nat} {L : List Tr} (h : ArgT w o c L) (hb : Below w.heap.size w w') : ArgT w' o c L := by
  obtain ⟨l, h1, h2, h3⟩ := h
  exact ⟨l, h1.later hb, h2, fun i a b => ⟨⟨(h3 i a b).1.1, (h3 i a b).1.2.1, (h3 i a b).1.2.2.1, (h3 i a b).1.2.2.2.later hb⟩, ⟨(h3 i a b).2.1, (h3 i a b).2.2.1, (h3 i a b).2.2.2.1, (h3 i a b).2.2.2.2.later hb⟩⟩⟩
/-- One of them, as it lies. -/
theorem ArgT.at {w : World} {o : Option Addr} {c i : Nat} {L : List Tr} (h : ArgT w o c L) (hi : i < L.length) : ∃ (a : Addr) (x : Ti), o = some a ∧ w.cell? (a.add (i * 2)) = some (.slice x.ao x.an x.ac) ∧ w.cell? (a.add (i * 2 + 1)) = some (.slice x.bo x.bn x.bc) ∧
    (L[i].1.length = x.an ∧ x.an ≤ x.ac ∧ x.ac ≤ 9223372036854775807 ∧ ArgP w x.ao x.ac L[i].1) ∧ (L[i].2.length = x.bn ∧ x.bn ≤ x.bc ∧ x.bc ≤ 9223372036854775807 ∧ ArgP w x.bo x.bc L[i].2) := by
  obtain ⟨l, h1, h2, h3⟩ := h
  have hil : i < l.length := by omega
  rcases h1 with ⟨_, rfl, _⟩ | ⟨a, rfl, hc⟩
  · simp at hil
  · exact ⟨a, l[i], rfl, hc i hil 0 _ rfl, hc i hil 1 _ rfl, h3 i hil hi⟩
end Go.Proofs.Ytlhigfphfbmbjaa

