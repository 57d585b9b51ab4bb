import Derived.WalkKit
import Derived.WalkSpells
import Derived.WalkLawsBesides
import Derived.Lib.Hide
import Derived.OneCell
import Derived.ProofKit
import Derived.Carry
import Derived.Below
import Derived.OwnWalk
import Derived.Laws.AppendOwnNone
import Init
/- Small laws on blocks of cells, on two-word numbers and their sums: no program is named here. -/
namespace Go.Proofs.Kit
open Go.RowKit

/-- Block b holds just these cells, and nothing of it is frozen. -/
def Blk (w : World) (b : Nat) (vs : Array Value) (t : TypeId) : Prop := w.heap[b]? = some (.cells vs t (0, 0))

theorem Blk.lt {w : World} {b : Nat} {vs : Array Value} {t : TypeId} (h : Blk w b vs t) : b < w.heap.size := (Array.getElem?_eq_some_iff.1 h).1
theorem Blk.cell {w : World} {b : Nat} {vs : Array Value} {t : TypeId} (h : Blk w b vs t) (i : Nat) : w.cell? ⟨b, i, none⟩ = vs[i]? := by simp [World.cell?, show w.heap[b]? = _ from h]
theorem Blk.frozen {w : World} {b : Nat} {vs : Array Value} {t : TypeId} (h : Blk w b vs t) (i : Nat) : w.frozen? ⟨b, i, none⟩ = false := by simp [World.frozen?, show w.heap[b]? = _ from h]
theorem Blk.new (w : World) (vs : Array Value) (t : TypeId) : Blk (w.alloc (.cells vs t)) w.heap.size vs t := by
  show (w.heap.push _)[w.heap.size]? = _
  simp
theorem Blk.alloc {w : World} {b : Nat} {vs : Array Value} {t : TypeId} (h : Blk w b vs t) (o : Obj) : Blk (w.alloc o) b vs t := (Below.heap_alloc w o b h.lt).trans h
theorem Blk.drew {w : World} {b : Nat} {vs : Array Value} {t : TypeId} (h : Blk w b vs t) : Blk w.drew b vs t := h
theorem Blk.other {w : World} {b : Nat} {vs : Array Value} {t : TypeId} (h : Blk w b vs t) {p : Addr} (hp : b ≠ p.block) (u : Value) : Blk (w.setCell p u) b vs t := (Below.heap_setCell w p u b hp).trans h
theorem Blk.set {w : World} {b : Nat} {vs : Array Value} {t : TypeId} (h : Blk w b vs t) (i : Nat) (u : Value) : Blk (w.setCell ⟨b, i, none⟩ u) b (vs.setIfInBounds i u) t := by
  have hlt := h.lt
  have h' : w.heap[b] = .cells vs t (0, 0) := by simpa [Array.getElem?_eq_getElem hlt] using (show w.heap[b]? = _ from h)
  show (w.heap.modify b _)[b]? = _
  rw [Array.getElem?_eq_getElem (by simpa using hlt), Array.getElem_modify_self, h']
  rfl
theorem Blk.below {w w' : World} {B b : Nat} {vs : Array Value} {t : TypeId} (h : Blk w b vs t) (hb : Below B w w') (hlt : b < B) : Blk w' b vs t := (hb.block b hlt).trans h
theorem Blk.later {w w' : World} {b : Nat} {vs : Array Value} {t : TypeId} (h : Blk w b vs t) (hb : Below w.heap.size w w') : Blk w' b vs t := h.below hb h.lt

theorem bodyPost_panic {P : Program} {fn : Func} {R : Ending → World → Prop} {a : Act} {w : World} {chain : List PanicEntry} (hd : a.defers = []) (hR : R (.panicked chain) w) : bodyPost P fn R (.panic chain) a w := ⟨hd, hR⟩

/-! ### Two words as one number -/
def num (p : Int × Int) : Int := p.1 * 18446744073709551616 + p.2
def Big : Int := 340282366920938463463374607431768211456
def hiW (n : Int) : Int := n / 18446744073709551616
def loW (n : Int) : Int := n % 18446744073709551616
/-- a word -/
def Wd (x : Int) : Prop := 0 ≤ x ∧ x < 18446744073709551616
/-- a pair of words -/
def Wp (p : Int × Int) : Prop := Wd p.1 ∧ Wd p.2
def sumN : List (Int × Int) → Int
  | [] => 0
  | p :: t => num p + sumN t

theorem num_pos {p : Int × Int} (h : Wp p) : 0 ≤ num p ∧ num p < Big := by
  obtain ⟨⟨_, _⟩, _, _⟩ := h; unfold num Big; omega
theorem sumN_pos {l : List (Int × Int)} (h : ∀ p ∈ l, Wp p) : 0 ≤ sumN l := by
  induction l with
  | nil => simp [sumN]
  | cons p t ih => have := (num_pos (h p (by simp))).1; have := ih (fun q hq => h q (by simp [hq])); simp only [sumN]; omega
theorem sumN_append (a b : List (Int × Int)) : sumN (a ++ b) = sumN a + sumN b := by
  induction a with
  | nil => simp [sumN]
  | cons p t ih => simp only [List.cons_append, sumN, ih]; omega
theorem sumN_take_succ {l : List (Int × Int)} {k : Nat} (h : k < l.length) : sumN (l.take (k + 1)) = sumN (l.take k) + num l[k] := by
  rw [List.take_succ_eq_append_getElem h, sumN_append]; simp [sumN]
theorem sumN_take_le {l : List (Int × Int)} (h : ∀ p ∈ l, Wp p) (k : Nat) : sumN (l.take k) ≤ sumN l := by
  have e : sumN l = sumN (l.take k) + sumN (l.drop k) := by rw [← sumN_append, List.take_append_drop]
  have := sumN_pos (l := l.drop k) (fun p hp => h p (List.mem_of_mem_drop hp))
  omega

theorem hiW_wd {S : Int} (h0 : 0 ≤ S) (h1 : S < Big) : Wd (hiW S) := by unfold Big at h1; unfold Wd hiW; omega
theorem loW_wd (S : Int) : Wd (loW S) := by unfold Wd loW; omega
theorem num_hl (S : Int) : num (hiW S, loW S) = S := by unfold num hiW loW; omega
theorem hiW_num {p : Int × Int} (h : Wp p) : hiW (num p) = p.1 := by obtain ⟨⟨_, _⟩, _, _⟩ := h; unfold hiW num; omega
theorem loW_num {p : Int × Int} (h : Wp p) : loW (num p) = p.2 := by obtain ⟨⟨_, _⟩, _, _⟩ := h; unfold loW num; omega

theorem add_lo (S a b : Int) : (loW S + b) % 18446744073709551616 = loW (S + num (a, b)) := by unfold loW num; omega
theorem add_hi {S a b : Int} (h0 : 0 ≤ S) (hS : S < Big) (ha : Wd a) (hb : Wd b) (h : S + num (a, b) < Big) : (hiW S + a + (loW S + b) / 18446744073709551616) % 18446744073709551616 = hiW (S + num (a, b)) := by
  obtain ⟨_, _⟩ := ha; obtain ⟨_, _⟩ := hb; unfold hiW loW num Big at *; omega
theorem add_over0 {S a b : Int} (h0 : 0 ≤ S) (hS : S < Big) (ha : Wd a) (hb : Wd b) (h : S + num (a, b) < Big) : (hiW S + a + (loW S + b) / 18446744073709551616) / 18446744073709551616 = 0 := by
  obtain ⟨_, _⟩ := ha; obtain ⟨_, _⟩ := hb; unfold hiW loW num Big at *; omega
theorem add_over1 {S a b : Int} (h0 : 0 ≤ S) (hS : S < Big) (ha : Wd a) (hb : Wd b) (h : ¬ S + num (a, b) < Big) : (hiW S + a + (loW S + b) / 18446744073709551616) / 18446744073709551616 = 1 := by
  obtain ⟨_, _⟩ := ha; obtain ⟨_, _⟩ := hb; unfold hiW loW num Big at *; omega
theorem carry_01 {S b : Int} (hb : Wd b) : 0 ≤ (loW S + b) / 18446744073709551616 ∧ (loW S + b) / 18446744073709551616 ≤ 1 := by
  obtain ⟨_, _⟩ := hb; unfold loW; omega
end Go.Proofs.Kit


/- How a law's row follows from its walk: it answers true, and what lay there ahead of the call lies there as it lay. No program is named here. -/
namespace Go.Proofs.Kit
open Go.ChangeShapes Go.WideShapes Go.ChangeAt Go.RowKit

section
variable {H : Type} {enc : TypeId × Value → H} {P : Program}

theorem trodAll_below (hl : laidOutB P = true) {W W' : World} (hb : Below W.heap.size W W') :
    ∀ (ts : List TypeId) (vs : List Value) (ds : List (DataW H)) (ps : List MemPlace), ts.all (fun t => P.readableRec t && decide (t < P.types.size)) = true →
      DataW.TrodAll enc P W 0 (fun _ => true) true ts vs ds ps → (∀ x ∈ ps, x.block < W.heap.size) → DataW.TrodAll enc P W' 0 (fun b => decide (b < W.heap.size)) true ts vs ds ps
  | [], vs, ds, ps, _, h, _ => by
    obtain ⟨rfl, rfl, rfl⟩ := trodAll_nil h
    simp [DataW.TrodAll]
  | t :: ts, vs, ds, ps, ht, h, hlt => by
    obtain ⟨v, vs', d, ds', p, q, rfl, rfl, rfl, h1, h2⟩ := trodAll_cons h
    simp only [List.all_cons, Bool.and_eq_true, decide_eq_true_eq] at ht
    exact ⟨p, q, Below.trod hl ht.1.1 ht.1.2 h1 hb (fun x hx => hlt x (by simp [hx])), trodAll_below hl hb ts vs' ds' q ht.2 h2 (fun x hx => hlt x (by simp [hx])), rfl⟩

/-- The row's last step. -/
theorem law_post {f : Func} {s : ChangeSpec} {W W' : World} {args : Array Value} {ds gs : List (DataW H)} {before : List MemPlace} {t : TypeId}
    (hl : laidOutB P = true) (hts : f.params.toList.all (fun t => P.readableRec t && decide (t < P.types.size)) = true)
    (hrt : f.resultTypes = #[t]) (ht : P.underlying t = some .bool) (hv : s.vars = []) (hW : DataW.Whole enc P f.params.toList s.vars false W args.toList ds gs before)
    (hfn : s.fn H (ds ++ gs) = { results := [.lit (.bool true)], args := ds }) (hb : Below W.heap.size W W') : s.post enc P f false true false false W args (.bool true) W' := by
  obtain ⟨p, q, hA, hV, hps, hz, hn⟩ := hW
  have hV' := hV
  rw [hv] at hV'
  obtain ⟨rfl, rfl⟩ := trodVars_none hV'
  have hlt : ∀ x ∈ p, x.block < W.heap.size := fun x hx => DataW.Whole.lt (ts := f.params.toList) (vars := s.vars) (apart := false) ⟨p, [], hA, hV, hps, hz, hn⟩ x (by rw [hps]; simp [hx])
  refine ⟨ds, [], before, [], p, [], ⟨p, [], hA, hV, hps, hz, hn⟩, ?_, ?_, ?_, World.keptBut_mono (fun x hx => ?_) (hb.frame (· ∈ before)), fun h => by cases h⟩
  · rw [hfn, hrt]
    exact trodAll_mk1 (shut_bool ht true)
  · rw [hfn]
    exact trodAll_below hl hb _ _ _ _ hts hA hlt
  · rw [hfn, hv]
    rfl
  · refine ⟨hx, ?_⟩
    rw [hps, List.append_nil] at hx
    exact .inr (.inl hx)
end
end Go.Proofs.Kit


/- Slices of integers as lists, rows that a call owns, and worlds that part in one block alone: no program is named here. -/
namespace Go.Proofs.Kit
open Go.RowKit

theorem below_drN {B : Nat} {w0 w : World} (h : Below B w0 w) (n : Nat) : Below B w0 (w.drewN n) := h.trans ⟨rfl, rfl, rfl, Nat.le_refl _, fun _ _ => rfl⟩
/-- In the world w the value v is a slice of these integers. -/
def Seg (k : IntKind) (w : World) (v : Value) (l : List Int) : Prop :=
  l.length ≤ 9223372036854775807 ∧ ((v = .slice none 0 0 ∧ l = []) ∨ ∃ b off cap, v = .slice (some ⟨b, off, none⟩) l.length cap ∧ l.length ≤ cap ∧ cap ≤ 9223372036854775807 ∧ b < w.heap.size ∧
    ∀ i (h : i < l.length), w.cell? ⟨b, off + i, none⟩ = some (.int k l[i]))
section
variable {k : IntKind} {w w' : World} {v : Value} {l : List Int}
theorem Seg.below {B : Nat} (h : Seg k w v l) (hb : Below B w w') (hB : w.heap.size ≤ B) : Seg k w' v l := by
  refine ⟨h.1, ?_⟩
  rcases h.2 with h | ⟨b, off, cap, h1, h2, h3, h4, h5⟩
  · exact .inl h
  · exact .inr ⟨b, off, cap, h1, h2, h3, Nat.lt_of_lt_of_le h4 hb.size, fun i hi => (hb.cell (p := ⟨b, off + i, none⟩) (Nat.lt_of_lt_of_le h4 hB)).trans (h5 i hi)⟩
theorem Seg.later (h : Seg k w v l) (hb : Below w.heap.size w w') : Seg k w' v l := h.below hb (Nat.le_refl _)
theorem Seg.alloc (h : Seg k w v l) (o : Obj) : Seg k (w.alloc o) v l := h.later ((Below.refl _ _).alloc (Nat.le_refl _) _)
theorem Seg.drew (h : Seg k w v l) : Seg k w.drew v l := h.later (Below.refl _ _).drew
theorem Seg.nil (k : IntKind) (w : World) : Seg k w (.slice none 0 0) [] := ⟨by simp, .inl ⟨rfl, rfl⟩⟩
/-- What a slice's value looks like. -/
theorem Seg.shape (h : Seg k w v l) : ∃ o cap, v = .slice o l.length cap ∧ l.length ≤ cap ∧ cap ≤ 9223372036854775807 ∧ (l = [] ∨ ∃ b off, o = some ⟨b, off, none⟩ ∧ b < w.heap.size ∧ ∀ i (h : i < l.length), w.cell? ⟨b, off + i, none⟩ = some (.int k l[i])) := by
  rcases h.2 with ⟨rfl, rfl⟩ | ⟨b, off, cap, rfl, h2, h3, h4, h5⟩
  · exact ⟨none, 0, rfl, by simp, by simp, .inl rfl⟩
  · exact ⟨_, cap, rfl, h2, h3, .inr ⟨b, off, rfl, h4, h5⟩⟩
theorem Seg.upto {o : Option Addr} {n c : Nat} (h : Seg k w (.slice o l.length c) l) (hn : n ≤ l.length) : Seg k w (.slice o n c) (l.take n) := by
  have hl : (l.take n).length = n := by simp; omega
  rcases h.2 with ⟨h1, rfl⟩ | ⟨b, off, cap, h1, h2, h3, h4, h5⟩
  · obtain rfl : n = 0 := by simpa using hn
    exact ⟨by simp, .inl ⟨h1, by simp⟩⟩
  · injection h1 with e1 _ e3
    subst e1 e3
    refine ⟨by have := h.1; omega, .inr ⟨b, off, c, by rw [hl], by omega, h3, h4, fun i hi => ?_⟩⟩
    rw [h5 i (by omega), List.getElem_take]
theorem Seg.sub {b f c p q : Nat} (h : Seg k w (.slice (some ⟨b, f, none⟩) l.length c) l) (hp : p ≤ q) (hq : q ≤ l.length) : Seg k w (.slice (some ⟨b, f + p, none⟩) (q - p) (c - p)) ((l.drop p).take (q - p)) := by
  have hl : ((l.drop p).take (q - p)).length = q - p := by simp; omega
  rcases h.2 with ⟨h1, _⟩ | ⟨b', off, cap, h1, h2, h3, h4, h5⟩
  · injection h1 with e1; cases e1
  · injection h1 with e1 _ e3
    injection e1 with e1
    injection e1 with e1 e2 _
    subst e1 e2 e3
    refine ⟨by have := h.1; omega, .inr ⟨b, f + p, c - p, by rw [hl], by omega, by omega, h4, fun i hi => ?_⟩⟩
    have := h5 (p + i) (by omega)
    rw [Nat.add_assoc, this]
    simp
/-- A slice of a whole block. -/
theorem Seg.of_blk {b cap : Nat} {vs : Array Value} {t : TypeId} (hb : Blk w b vs t) (hl : l.length ≤ cap) (hc : cap ≤ 9223372036854775807) (hv : vs.toList.take l.length = l.map (Value.int k)) : Seg k w (.slice (some ⟨b, 0, none⟩) l.length cap) l := by
  refine ⟨by omega, .inr ⟨b, 0, cap, rfl, hl, hc, hb.lt, fun i hi => ?_⟩⟩
  rw [hb.cell, Nat.zero_add]
  have : (vs.toList.take l.length)[i]? = some (.int k l[i]) := by rw [hv]; simp [hi]
  rw [List.getElem?_take_of_lt hi] at this
  simpa using this
end

/-- A slice of these integers that lies in a row of the call's own, not below B. -/
def Owns (k : IntKind) (t : TypeId) (B : Nat) (w : World) (v : Value) (l : List Int) : Prop := w.ownsRow B t 1 v l.length (l.map (Value.int k))
section
variable {k : IntKind} {t : TypeId} {B : Nat} {w w' : World} {v : Value} {l : List Int}
theorem Owns.nil (k : IntKind) (t : TypeId) (B : Nat) (w : World) : Owns k t B w (.slice none 0 0) [] := World.ownsRow_nil w B t 1
theorem Owns.len (h : Owns k t B w v l) : l.length ≤ 9223372036854775807 := by
  rcases h.2 with ⟨_, h⟩ | ⟨g, cap, cur, rfl, hg, hb, h1, h2, h3, h4⟩
  · omega
  · unfold maxLen at h2; omega
theorem Owns.seg (h : Owns k t B w v l) : Seg k w v l := by
  refine ⟨h.len, ?_⟩
  rcases h.2 with ⟨h1, h2⟩ | ⟨g, cap, cur, rfl, hg, hb, h1, h2, h3, h4⟩
  · exact .inl ⟨h1, List.length_eq_zero_iff.1 h2⟩
  · refine .inr ⟨g, 0, cap, rfl, h1, by unfold maxLen at h2; omega, (Blk.lt (t := t) hb), fun i hi => ?_⟩
    rw [Blk.cell (t := t) hb, Nat.zero_add]
    have : (cur.toList.take l.length)[i]? = some (.int k l[i]) := by
      rw [Nat.mul_one] at h4; rw [h4]; simp [hi]
    rw [List.getElem?_take_of_lt hi] at this
    simpa using this
theorem Owns.shape (h : Owns k t B w v l) : ∃ o cap, v = .slice o l.length cap := by
  rcases h.2 with ⟨h1, h2⟩ | ⟨g, cap, cur, rfl, _⟩
  · exact ⟨none, 0, by rw [h2]; exact h1⟩
  · exact ⟨_, _, rfl⟩
theorem Owns.ne_blk {b : Nat} {vs : Array Value} {t' : TypeId} (h : Owns k t B w v l) (hb : Blk w b vs t') (ht : t ≠ t') : v.ownBlock ≠ some b := by
  intro e
  rcases h.2 with ⟨rfl, _⟩ | ⟨g, cap, cur, rfl, hg, hh, _⟩
  · simp [Value.ownBlock] at e
  · simp [Value.ownBlock] at e
    subst e
    rw [show w.heap[g]? = _ from hb] at hh
    injection hh with hh
    injection hh with _ h2 _
    exact ht h2.symm
theorem Blk.grown {b : Nat} {vs : Array Value} {t' : TypeId} {row : Option Nat} (hb : Blk w b vs t') (hg : w.grownBy w' row) (hr : row ≠ some b) : Blk w' b vs t' := (hg.block b hb.lt (fun e => hr e.symm)).trans hb
theorem Owns.mono {B' : Nat} (h : Owns k t B w v l) (hB : B' ≤ B) : Owns k t B' w v l := by
  refine ⟨h.1, ?_⟩
  rcases h.2 with h | ⟨g, cap, cur, h1, hg, h⟩
  · exact .inl h
  · exact .inr ⟨g, cap, cur, h1, Nat.le_trans hB hg, h⟩
theorem Owns.same (h : Owns k t B w v l) (hs : ∀ g, v.ownBlock = some g → w'.heap[g]? = w.heap[g]?) : Owns k t B w' v l := by
  refine ⟨h.1, ?_⟩
  rcases h.2 with h | ⟨g, cap, cur, rfl, hg, hb, h⟩
  · exact .inl h
  · exact .inr ⟨g, cap, cur, rfl, hg, (hs g rfl).trans hb, h⟩
theorem Owns.later (h : Owns k t B w v l) (hb : Below w.heap.size w w') : Owns k t B w' v l := h.same fun g hg => hb.block g (h.lt g hg).2
theorem Owns.drew (h : Owns k t B w v l) : Owns k t B w.drew v l := h
theorem Owns.alloc (h : Owns k t B w v l) (o : Obj) : Owns k t B (w.alloc o) v l := h.later ((Below.refl _ _).alloc (Nat.le_refl _) _)
/-- A block of the call's own, laid just now. -/
theorem Owns.new {vs : Array Value} (hB : B ≤ w.heap.size) (hv : vs = (l.map (Value.int k)).toArray) (hm : l.length ≤ 9223372036854775807) : Owns k t B (w.alloc (.cells vs t)) (.slice (some ⟨w.heap.size, 0, none⟩) l.length l.length) l := by
  subst hv
  refine ⟨by simp, .inr ⟨w.heap.size, l.length, _, rfl, hB, heap_alloc_new w _, Nat.le_refl _, by unfold maxLen; omega, by simp, ?_⟩⟩
  simp [List.take_of_length_le]
/-- A store into the row. -/
theorem Owns.set {i : Nat} (h : Owns k t B w v l) (hi : i < l.length) (x : Int) : ∃ g cap, v = .slice (some ⟨g, 0, none⟩) l.length cap ∧ l.length ≤ cap ∧ cap ≤ 9223372036854775807 ∧ B ≤ g ∧ g < w.heap.size ∧ w.cell? ⟨g, i, none⟩ = some (.int k l[i]) ∧ w.frozen? ⟨g, i, none⟩ = false ∧ Owns k t B (w.setCell ⟨g, i, none⟩ (.int k x)) v (l.set i x) := by
  rcases h.2 with ⟨_, h2⟩ | ⟨g, cap, cur, rfl, hg, hb, h1, h2, h3, h4⟩
  · omega
  · have hb' : Blk w g cur t := hb
    refine ⟨g, cap, rfl, h1, by unfold maxLen at h2; omega, hg, hb'.lt, ?_, hb'.frozen _, ?_⟩
    · rw [hb'.cell]
      have : (cur.toList.take l.length)[i]? = some (.int k l[i]) := by
        rw [Nat.mul_one] at h4; rw [h4]; simp [hi]
      rw [List.getElem?_take_of_lt hi] at this
      simpa using this
    · refine ⟨by simp, .inr ⟨g, cap, cur.setIfInBounds i (.int k x), by simp, hg, hb'.set i _, by simpa using h1, h2, by simpa using h3, ?_⟩⟩
      simp only [List.length_set, Nat.mul_one, Array.toList_setIfInBounds, List.take_set, List.map_set]
      rw [Nat.mul_one] at h4; rw [h4]
end

/-! ### Worlds that part in one block alone -/
/-- All that lay in w but block r lies in w' as it lay. -/
structure But (r : Nat) (w w' : World) : Prop where
  os : w'.os = w.os
  tape : w'.tape = w.tape
  output : w'.output = w.output
  size : w.heap.size ≤ w'.heap.size
  same : ∀ k, k ≠ r → k < w.heap.size → w'.heap[k]? = w.heap[k]?
section
variable {r : Nat} {w w1 w' : World}
theorem But.refl (r : Nat) (w : World) : But r w w := ⟨rfl, rfl, rfl, Nat.le_refl _, fun _ _ _ => rfl⟩
theorem But.trans (h : But r w w1) (k : But r w1 w') : But r w w' :=
  ⟨k.os.trans h.os, k.tape.trans h.tape, k.output.trans h.output, Nat.le_trans h.size k.size, fun i hi hs => (k.same i hi (Nat.lt_of_lt_of_le hs h.size)).trans (h.same i hi hs)⟩
theorem But.of_below (hb : Below w.heap.size w w') : But r w w' := ⟨hb.os, hb.tape, hb.output, hb.size, fun k _ hk => hb.block k hk⟩
theorem But.later (h : But r w w1) (hb : Below w1.heap.size w1 w') : But r w w' := h.trans (.of_below hb)
theorem But.low {B : Nat} (h : But r w w1) (hb : Below B w1 w') (hB : w.heap.size ≤ B) : But r w w' :=
  ⟨hb.os.trans h.os, hb.tape.trans h.tape, hb.output.trans h.output, Nat.le_trans h.size hb.size, fun k hk hs => (hb.block k (by omega)).trans (h.same k hk hs)⟩
theorem But.alloc (h : But r w w1) (o : Obj) : But r w (w1.alloc o) := h.later ((Below.refl _ _).alloc (Nat.le_refl _) _)
theorem But.drew (h : But r w w1) : But r w w1.drew := ⟨h.os, h.tape, h.output, h.size, h.same⟩
theorem But.drewN (h : But r w w1) (n : Nat) : But r w (w1.drewN n) := ⟨h.os, h.tape, h.output, h.size, h.same⟩
theorem Blk.drewN {b : Nat} {vs : Array Value} {t : TypeId} (h : Blk w b vs t) (n : Nat) : Blk (w.drewN n) b vs t := h
theorem But.set (h : But r w w1) (i : Nat) (u : Value) : But r w (w1.setCell ⟨r, i, none⟩ u) :=
  h.trans ⟨rfl, rfl, rfl, by simp, fun k hk _ => Below.heap_setCell _ _ _ _ hk⟩
theorem But.blk {b : Nat} {vs : Array Value} {t : TypeId} (h : But r w w') (hb : Blk w b vs t) (hr : b ≠ r) : Blk w' b vs t := (h.same b hr hb.lt).trans hb
theorem But.below {B : Nat} (h : But r w w') (hr : B ≤ r) (hB : B ≤ w.heap.size) : Below B w w' := ⟨h.os, h.tape, h.output, h.size, fun k hk => h.same k (by omega) (by omega)⟩
theorem But.seg {k : IntKind} {v : Value} {l : List Int} (h : But r w w') (hs : Seg k w v l) (hr : ∀ b, v.ownBlock = some b → b ≠ r) : Seg k w' v l := by
  refine ⟨hs.1, ?_⟩
  rcases hs.2 with hs | ⟨b, off, cap, rfl, h2, h3, h4, h5⟩
  · exact .inl hs
  · exact .inr ⟨b, off, cap, rfl, h2, h3, Nat.lt_of_lt_of_le h4 h.size, fun i hi => (World.cell?_of_block (a := ⟨b, off + i, none⟩) (h.same b (hr b rfl) h4)).trans (h5 i hi)⟩
theorem But.own {k : IntKind} {t : TypeId} {B : Nat} {v : Value} {l : List Int} (h : But r w w') (hs : Owns k t B w v l) (hr : r < B) : Owns k t B w' v l :=
  hs.same fun g hg => h.same g (by have := (hs.lt g hg).1; omega) (hs.lt g hg).2
end
end Go.Proofs.Kit


/- append onto a row of the call's own, of whatever slice of integers, nil too: no program is named here. -/
namespace Go.Proofs.Kit
open Go.RowKit

theorem wpList_append_seg {P : Program} {w : World} {ops : Array Oper} {rest : List Oper} {o : Oper} {a : Act} {Q : Exit → Act → World → Prop} (hgd : o.guard = none) (s x : Operand) (t : TypeId)
    (ho : o.op = .call { callee := .builtin .append, args := #[s, x], argTypes := #[t, t] }) (k : IntKind)
    (base : Nat) (e : TypeId) (i : TypeInfo) (z : Value) (bytes : Nat) (ht : P.underlying t = some (.slice e)) (hi : P.info? e = some i) (hz : i.zero = some z) (hsize : i.size = 1) (hby : i.bytes = bytes) (hzs : z.cells.size = 1)
    (v : Value) (l : List Int) (hs : a.eval s = v) (hown : Owns k e base w v l) (vx : Value) (m : List Int) (hx : a.eval x = vx) (hm : Seg k w vx m)
    (h63 : l.length + m.length ≤ 9223372036854775807) (hbytes : (l.length + m.length) * bytes ≤ 140737488355328) (hbase : base ≤ w.heap.size)
    (h : ∀ v' w', Owns k e base w' v' (l ++ m) → Below base w w' → wpList P ops Q rest (a.put o.dst v') w') : wpList P ops Q (o :: rest) a w := by
  rcases hm.2 with ⟨rfl, rfl⟩ | ⟨b, f, c, rfl, h2, h3, h4, h5⟩
  · exact wpList_append_own_none hgd s x t ho base e i 1 ht hi v _ _ hs hown hx (h v w (by simpa using hown) (Below.refl _ _))
  · refine wpList_append_own w hgd s x t ho base e i z 1 bytes ht hi hz hsize hby hzs (by decide) v _ _ hs hown ⟨b, f, none⟩ m.length c (m.map (Value.int k)) hx (by simp) ?_ (ints_oneCell _ _) (by unfold maxLen; omega) hbytes hbase ?_
    · intro j u hj
      have hj' : j < m.length := by have := (List.getElem?_eq_some_iff.1 hj).1; simpa using this
      rw [Addr.add_lit, h5 j hj', ← hj]
      simp [hj']
    · intro v' w' hO hG _
      refine h v' w' ?_ ((Below.refl _ _).grown hG hbase (fun g hg => (hown.lt g hg).1))
      unfold Owns
      rw [List.length_append, List.map_append]
      exact hO
theorem Seg.one {k : IntKind} {w : World} {t : TypeId} (x : Int) : Seg k (w.alloc (.cells #[.int k x] t)) (.slice (some ⟨w.heap.size, 0, none⟩) 1 1) [x] :=
  Seg.of_blk (Blk.new _ _ _) (by simp) (by omega) (by simp)
end Go.Proofs.Kit


/- Tables: texts, and slots that tell their numbers: what may be, and what is found. No program is named here. -/
namespace Go.Proofs.Kit

/-- The number that stands at a place; 0: none. -/
def at0 (S : List Int) (p : Nat) : Int := S.getD p 0
theorem at0_lt {S : List Int} {p : Nat} (h : p < S.length) : at0 S p = S[p] := by simp [at0, h]
/-- The i-th of the places of a text of hash h, among m. -/
def prb (h m i : Nat) : Nat := (h + i) % m
theorem prb_lt {m : Nat} (hm : 0 < m) (h i : Nat) : prb h m i < m := Nat.mod_lt _ hm
/-- Each place is one of a text's. -/
theorem prb_all {m : Nat} (hm : 0 < m) (h p : Nat) (hp : p < m) : ∃ i, i < m ∧ prb h m i = p := by
  have hh := Nat.mod_lt h hm
  by_cases c : h % m ≤ p
  · refine ⟨p - h % m, by omega, ?_⟩
    unfold prb
    rw [Nat.add_mod, Nat.mod_eq_of_lt (a := p - h % m) (by omega), Nat.add_sub_cancel' c, Nat.mod_eq_of_lt hp]
  · refine ⟨p + m - h % m, by omega, ?_⟩
    unfold prb
    rw [Nat.add_mod, Nat.mod_eq_of_lt (a := p + m - h % m) (by omega), show h % m + (p + m - h % m) = p + m by omega, Nat.add_mod_right, Nat.mod_eq_of_lt hp]
theorem prb_inj {m : Nat} {h i j : Nat} (hi : i < m) (hj : j < m) (e : prb h m i = prb h m j) : i = j := by
  unfold prb at e
  have hm : 0 < m := by omega
  have key : ∀ a b : Nat, a ≤ b → b < m → (h + a) % m = (h + b) % m → a = b := by
    intro a b hab hb e
    have h1 : (h + b) = (h + a) + (b - a) := by omega
    have h2 : (b - a) % m = 0 := by
      have hx := Nat.div_add_mod (h + a) m
      have hy := Nat.div_add_mod (h + b) m
      rw [← e] at hy
      have : b - a = m * ((h + b) / m - (h + a) / m) := by
        rw [Nat.mul_sub]
        have hle : m * ((h + a) / m) ≤ m * ((h + b) / m) := Nat.mul_le_mul_left _ (Nat.div_le_div_right (by omega))
        omega
      rw [this]
      exact Nat.mul_mod_right _ _
    rw [Nat.mod_eq_of_lt (by omega)] at h2
    omega
  rcases Nat.le_total i j with c | c
  · exact key i j c hj e
  · exact (key j i c hi e.symm).symm

section
variable {α : Type} [DecidableEq α]
/-- A place where a text's search ends: it is free, or has the text. -/
def stp (T : List α) (S : List Int) (s : α) (p : Nat) : Bool := decide (at0 S p = 0) || decide (T[(at0 S p - 1).toNat]? = some s)
/-- Where a text's search ends. -/
def seatO (hs : α → Nat) (T : List α) (S : List Int) (s : α) : Option Nat := ((List.range S.length).map (prb (hs s) S.length)).find? (stp T S s)
variable {hs : α → Nat} {T : List α} {S : List Int}
theorem seatO_iff {s : α} {p : Nat} : seatO hs T S s = some p ↔ ∃ i, i < S.length ∧ p = prb (hs s) S.length i ∧ stp T S s p = true ∧ ∀ j, j < i → stp T S s (prb (hs s) S.length j) = false := by
  unfold seatO
  rw [List.find?_map]
  constructor
  · intro h
    obtain ⟨i, hi, rfl⟩ := Option.map_eq_some_iff.1 h
    obtain ⟨h1, h2, h3⟩ := List.find?_range_eq_some.1 hi
    exact ⟨i, List.mem_range.1 h2, rfl, h1, fun j hj => by have := h3 j hj; simpa using this⟩
  · rintro ⟨i, hi, rfl, h1, h2⟩
    rw [Option.map_eq_some_iff]
    exact ⟨i, List.find?_range_eq_some.2 ⟨h1, List.mem_range.2 hi, fun j hj => by have := h2 j hj; simpa using this⟩, rfl⟩
theorem seatO_lt {s : α} {p : Nat} (h : seatO hs T S s = some p) : p < S.length := by
  obtain ⟨i, hi, rfl, _⟩ := seatO_iff.1 h
  exact prb_lt (by omega) _ _
theorem seatO_stp {s : α} {p : Nat} (h : seatO hs T S s = some p) : at0 S p = 0 ∨ T[(at0 S p - 1).toNat]? = some s := by
  obtain ⟨i, _, _, h1, _⟩ := seatO_iff.1 h
  simpa [stp] using h1
/-- If a place is free, the search ends. -/
theorem seatO_some {s : α} (hf : ∃ p, p < S.length ∧ at0 S p = 0) : ∃ p, seatO hs T S s = some p := by
  obtain ⟨p, hp, h0⟩ := hf
  obtain ⟨i, hi, rfl⟩ := prb_all (m := S.length) (by omega) (hs s) p hp
  cases h : seatO hs T S s with
  | some q => exact ⟨q, rfl⟩
  | none =>
    unfold seatO at h
    rw [List.find?_eq_none] at h
    exact absurd (by simp [stp, h0]) (h _ (List.mem_map.2 ⟨i, List.mem_range.2 hi, rfl⟩))

/-- As many as are not free. -/
def taken (S : List Int) : Nat := S.countP (fun x => decide (x ≠ 0))
theorem taken_le (S : List Int) : taken S ≤ S.length := List.countP_le_length
theorem free_of_taken (h : taken S < S.length) : ∃ p, p < S.length ∧ at0 S p = 0 := by
  by_cases c : ∀ x ∈ S, x ≠ 0
  · have : taken S = S.length := List.countP_eq_length.2 (fun x hx => by simpa using c x hx)
    omega
  · simp only [Classical.not_forall, Decidable.not_not] at c
    obtain ⟨x, hx, rfl⟩ := c
    obtain ⟨p, hp, e⟩ := List.getElem_of_mem hx
    exact ⟨p, hp, by rw [at0_lt hp, e]⟩

/-- The first n texts' numbers stand in S, each found from its text's places. -/
structure Part (hs : α → Nat) (T : List α) (S : List Int) (n : Nat) : Prop where
  le : n ≤ T.length
  num : ∀ x ∈ S, 0 ≤ x ∧ x ≤ (n : Int)
  cnt : taken S = n
  sits : ∀ k (h : k < n), ∃ i, i < S.length ∧ at0 S (prb (hs (T[k]'(by omega))) S.length i) = (k : Int) + 1 ∧ ∀ j, j < i → at0 S (prb (hs (T[k]'(by omega))) S.length j) ≠ 0
theorem at0_num {n : Nat} (hn : ∀ x ∈ S, 0 ≤ x ∧ x ≤ (n : Int)) (p : Nat) : 0 ≤ at0 S p ∧ at0 S p ≤ (n : Int) := by
  by_cases hp : p < S.length
  · rw [at0_lt hp]; exact hn _ (List.getElem_mem hp)
  · have : at0 S p = 0 := by simp [at0, hp]
    omega
omit [DecidableEq α] in
theorem at0_mem {p : Nat} (h : at0 S p ≠ 0) : p < S.length ∧ at0 S p ∈ S := by
  by_cases hp : p < S.length
  · rw [at0_lt hp]; exact ⟨hp, List.getElem_mem hp⟩
  · exact absurd (by simp [at0, hp]) h
/-- A row of n numbers that has all from 1 to n is those. -/
theorem perm_of_has : ∀ (n : Nat) (L : List Int), L.length = n → (∀ k, k < n → (k : Int) + 1 ∈ L) → L.Perm ((List.range n).map (fun k : Nat => (k : Int) + 1))
  | 0, L, h, _ => by rw [List.length_eq_zero_iff.1 h]; exact List.Perm.refl _
  | n + 1, L, h, hk => by
    have h1 := hk n (by omega)
    have h2 := List.perm_cons_erase h1
    have h3 := perm_of_has n (L.erase ((n : Int) + 1)) (by have := h2.length_eq; simp at this; omega) (fun k hk' => (List.mem_erase_of_ne (by omega)).2 (hk k (by omega)))
    rw [List.range_succ, List.map_append]
    exact h2.trans ((List.Perm.cons _ h3).trans (by
      have := List.perm_append_comm (l₁ := [(n : Int) + 1]) (l₂ := (List.range n).map (fun k : Nat => (k : Int) + 1))
      simpa using this))
theorem nodup_nums (n : Nat) : ((List.range n).map (fun k : Nat => (k : Int) + 1)).Nodup := by
  unfold List.Nodup
  rw [List.pairwise_map]
  exact (List.nodup_range (n := n)).imp (fun h e => h (by omega))
theorem nodup_at {S : List Int} (h : (S.filter (fun x => decide (x ≠ 0))).Nodup) {p q : Nat} (hpq : p < q) (hq : q < S.length) (e : at0 S p = at0 S q) (h0 : at0 S p ≠ 0) : False := by
  unfold List.Nodup at h
  rw [List.pairwise_filter] at h
  rw [List.pairwise_iff_getElem] at h
  rw [at0_lt (by omega : p < S.length)] at e h0
  rw [at0_lt hq] at e
  exact h p q (by omega) hq hpq (by simpa using h0) (by simpa [← e] using h0) e
omit [DecidableEq α] in
theorem Part.nodup {n : Nat} (h : Part hs T S n) : (S.filter (fun x => decide (x ≠ 0))).Nodup := by
  have hl : (S.filter (fun x => decide (x ≠ 0))).length = n := by rw [← List.countP_eq_length_filter]; exact h.cnt
  refine (perm_of_has n _ hl fun k hk => ?_).nodup_iff.2 (nodup_nums n)
  obtain ⟨i, _, h1, _⟩ := h.sits k hk
  rw [List.mem_filter]
  have h0 : at0 S (prb (hs (T[k]'(by have := h.le; omega))) S.length i) ≠ 0 := by rw [h1]; omega
  exact ⟨by rw [← h1]; exact (at0_mem h0).2, by simp; omega⟩
omit [DecidableEq α] in
/-- No number stands twice. -/
theorem Part.one {n p q : Nat} (h : Part hs T S n) (e : at0 S p = at0 S q) (h0 : at0 S p ≠ 0) : p = q := by
  have hp := (at0_mem h0).1
  have hq := (at0_mem (e ▸ h0)).1
  rcases Nat.lt_trichotomy p q with c | c | c
  · exact (nodup_at h.nodup c hq e h0).elim
  · exact c
  · exact (nodup_at h.nodup c hp e.symm (e ▸ h0)).elim
omit [DecidableEq α] in
theorem Part.free {n : Nat} (h : Part hs T S n) (hn : n < S.length) : ∃ p, p < S.length ∧ at0 S p = 0 := free_of_taken (by rw [h.cnt]; exact hn)

/-- The text of each number is found. -/
theorem Part.seat {n : Nat} (h : Part hs T S n) (hT : T.Nodup) {k : Nat} (hk : k < n) : ∃ p, seatO hs T S (T[k]'(by have := h.le; omega)) = some p ∧ at0 S p = (k : Int) + 1 := by
  have hkT : k < T.length := by have := h.le; omega
  obtain ⟨i, hi, h1, h2⟩ := h.sits k hk
  refine ⟨_, seatO_iff.2 ⟨i, hi, rfl, ?_, fun j hj => ?_⟩, h1⟩
  · simp [stp, h1, hkT]
  · have h0 := h2 j hj
    have hne : prb (hs T[k]) S.length j ≠ prb (hs T[k]) S.length i := fun e => by have := prb_inj (by omega) hi e; omega
    have hx := at0_num h.num (prb (hs T[k]) S.length j)
    simp only [stp, Bool.or_eq_false_iff, decide_eq_false_iff_not]
    refine ⟨h0, fun e => ?_⟩
    obtain ⟨h3, h4⟩ := List.getElem?_eq_some_iff.1 e
    have := (List.getElem_inj hT).1 h4
    exact hne (h.one (by rw [h1]; omega) h0)

/-- The first of a text's places that is free. -/
def Fst (hs : α → Nat) (S : List Int) (s : α) (p : Nat) : Prop := ∃ i, i < S.length ∧ p = prb (hs s) S.length i ∧ at0 S p = 0 ∧ ∀ j, j < i → at0 S (prb (hs s) S.length j) ≠ 0
theorem at0_set {p q : Nat} {v : Int} (hp : p < S.length) : at0 (S.set p v) q = if q = p then v else at0 S q := by
  unfold at0
  rw [List.getD_eq_getElem?_getD, List.getD_eq_getElem?_getD, List.getElem?_set]
  by_cases c : q = p
  · subst c; simp [hp]
  · rw [if_neg c, if_neg (fun e => c e.symm)]
theorem taken_set {p : Nat} {v : Int} (hp : p < S.length) (h0 : at0 S p = 0) (hv : v ≠ 0) : taken (S.set p v) = taken S + 1 := by
  unfold taken
  rw [List.countP_set hp]
  rw [at0_lt hp] at h0
  simp [h0, hv]
omit [DecidableEq α] in
theorem Part.add {n p : Nat} (h : Part hs T S n) (hn : n < T.length) (hf : Fst hs S T[n] p) : Part hs T (S.set p ((n : Int) + 1)) (n + 1) := by
  obtain ⟨i, hi, rfl, h0, hj⟩ := hf
  have hp := prb_lt (m := S.length) (by omega) (hs T[n]) i
  refine ⟨hn, fun x hx => ?_, ?_, fun k hk => ?_⟩
  · rcases List.mem_or_eq_of_mem_set hx with hx | rfl
    · have := h.num x hx; omega
    · omega
  · rw [taken_set hp h0 (by omega), h.cnt]
  · simp only [List.length_set]
    by_cases c : k = n
    · subst c
      refine ⟨i, hi, by rw [at0_set hp, if_pos rfl], fun j hji => ?_⟩
      rw [at0_set hp, if_neg (fun e => by have := prb_inj (by omega) hi e; omega)]
      exact hj j hji
    · obtain ⟨i', hi', h1, h2⟩ := h.sits k (by omega)
      have hne : ∀ q, at0 S q ≠ 0 → at0 (S.set (prb (hs T[n]) S.length i) ((n : Int) + 1)) q = at0 S q := fun q hq => by
        rw [at0_set hp, if_neg]
        rintro rfl
        exact hq h0
      exact ⟨i', hi', by rw [hne _ (by rw [h1]; omega), h1], fun j hji => by rw [hne _ (h2 j hji)]; exact h2 j hji⟩
omit [DecidableEq α] in
theorem Part.more {n : Nat} (h : Part hs T S n) (s : List α) : Part hs (T ++ s) S n := by
  refine ⟨by have := h.le; simp; omega, h.num, h.cnt, fun k hk => ?_⟩
  have := h.le
  rw [List.getElem_append_left (by omega)]
  exact h.sits k hk
omit [DecidableEq α] in
theorem Part.none (hs : α → Nat) (T : List α) {S : List Int} (h : ∀ x ∈ S, x = 0) : Part hs T S 0 :=
  ⟨by omega, fun x hx => by rw [h x hx]; simp, by unfold taken; rw [List.countP_eq_zero]; intro x hx; simp [h x hx], fun k hk => by omega⟩
/-- A text that has no number yet: its search ends at the first free place. -/
theorem seat_new {n p : Nat} {s : α} (h : Part hs T S n) (hs' : ∀ k (hk : k < n), T[k]'(by have := h.le; omega) ≠ s) (hp : seatO hs T S s = some p) : Fst hs S s p := by
  obtain ⟨i, hi, rfl, h1, h2⟩ := seatO_iff.1 hp
  have hx := at0_num h.num (prb (hs s) S.length i)
  refine ⟨i, hi, rfl, ?_, fun j hj => ?_⟩
  · simp only [stp, Bool.or_eq_true, decide_eq_true_eq] at h1
    rcases h1 with h1 | h1
    · exact h1
    · obtain ⟨h3, h4⟩ := List.getElem?_eq_some_iff.1 h1
      by_cases c : at0 S (prb (hs s) S.length i) = 0
      · exact c
      · exact (hs' _ (by omega) h4).elim
  · have := h2 j hj
    simp only [stp, Bool.or_eq_false_iff, decide_eq_false_iff_not] at this
    exact this.1

/-- A text's place. -/
def pos (T : List α) (s : α) : Nat := T.idxOf s
theorem pos_lt {s : α} (h : s ∈ T) : pos T s < T.length := List.idxOf_lt_length_iff.2 h
theorem pos_get {s : α} (h : s ∈ T) : T[pos T s]'(pos_lt h) = s := List.getElem_idxOf _
/-! ### Which tables may be -/
/-- As many slots as there may be. -/
def Szd (T : List α) (S : List Int) : Prop := T.length ≤ 1024 ∧ 8 ≤ S.length ∧ S.length &&& (S.length - 1) = 0 ∧ 2 * T.length ≤ S.length
/-- As many slots are taken as there are texts, by their numbers alone. -/
def Fld (T : List α) (S : List Int) : Prop := (∀ x ∈ S, 0 ≤ x ∧ x ≤ (T.length : Int)) ∧ taken S = T.length
/-- Each text is found by its number. -/
def Fnd (hs : α → Nat) (T : List α) (S : List Int) : Prop := ∀ n (h : n < T.length), ∃ p, seatO hs T S T[n] = some p ∧ at0 S p = (n : Int) + 1
structure Good (hs : α → Nat) (T : List α) (S : List Int) : Prop where
  sz : Szd T S
  fl : Fld T S
  fo : Fnd hs T S
omit [DecidableEq α] in
theorem Szd.free (h : Szd T S) (hf : Fld T S) : ∃ p, p < S.length ∧ at0 S p = 0 := free_of_taken (by rw [hf.2]; obtain ⟨_, _, _, _⟩ := h; omega)
theorem Good.nodup (h : Good hs T S) : T.Nodup := by
  unfold List.Nodup
  rw [List.pairwise_iff_getElem]
  intro i j hi hj hij e
  obtain ⟨p, h1, h2⟩ := h.fo i hi
  obtain ⟨q, h3, h4⟩ := h.fo j hj
  rw [e, h3] at h1
  injection h1 with h1
  subst h1
  omega
theorem Good.part (h : Good hs T S) : Part hs T S T.length := by
  refine ⟨Nat.le_refl _, h.fl.1, h.fl.2, fun k hk => ?_⟩
  obtain ⟨p, h1, h2⟩ := h.fo k hk
  obtain ⟨i, hi, rfl, _, h3⟩ := seatO_iff.1 h1
  refine ⟨i, hi, h2, fun j hj => ?_⟩
  have := h3 j hj
  simp only [stp, Bool.or_eq_false_iff, decide_eq_false_iff_not] at this
  exact this.1
theorem Good.of_part (hz : Szd T S) (h : Part hs T S T.length) (hT : T.Nodup) : Good hs T S := ⟨hz, ⟨h.num, h.cnt⟩, fun _ hn => h.seat hT hn⟩
theorem Good.free (h : Good hs T S) : ∃ p, p < S.length ∧ at0 S p = 0 := h.sz.free h.fl
/-- What is found of a text that the table has. -/
theorem Good.has (h : Good hs T S) {s : α} {p : Nat} (hp : seatO hs T S s = some p) (hm : s ∈ T) : at0 S p = (pos T s : Int) + 1 := by
  have hl := List.idxOf_lt_length_iff.2 hm
  obtain ⟨q, h1, h2⟩ := h.fo _ hl
  rw [List.getElem_idxOf] at h1
  rw [hp] at h1
  injection h1 with h1
  subst h1
  exact h2
theorem Good.hasnt (h : Good hs T S) {s : α} {p : Nat} (hp : seatO hs T S s = some p) (hm : s ∉ T) : Fst hs S s p :=
  seat_new h.part (fun _ _ e => hm (e ▸ List.getElem_mem _)) hp

/-! ### Powers of two -/
theorem pow_and {n : Nat} (h : ∃ k, n = 2 ^ k) : n &&& (n - 1) = 0 := by
  obtain ⟨k, rfl⟩ := h
  rw [Nat.and_two_pow_sub_one_eq_mod, Nat.mod_self]
theorem and_pow : ∀ (n : Nat), 0 < n → n &&& (n - 1) = 0 → ∃ k, n = 2 ^ k := by
  intro n
  induction n using Nat.strongRecOn with
  | _ n ih =>
    intro hn h
    rcases Nat.mod_two_eq_zero_or_one n with c | c
    · have hm : n / 2 &&& (n / 2 - 1) = 0 := by
        have := congrArg (· / 2) h
        simp only [Nat.and_div_two] at this
        rw [show (n - 1) / 2 = n / 2 - 1 by omega] at this
        simpa using this
      obtain ⟨k, hk⟩ := ih (n / 2) (by omega) (by omega) hm
      exact ⟨k + 1, by rw [Nat.pow_succ]; omega⟩
    · by_cases c1 : n = 1
      · exact ⟨0, by simpa using c1⟩
      · exfalso
        have h2 := congrArg (· / 2) h
        simp only [Nat.and_div_two] at h2
        rw [show (n - 1) / 2 = n / 2 by omega, Nat.and_self] at h2
        simp at h2
        omega
omit [DecidableEq α] in
theorem Szd.twice {T : List α} {S S' : List Int} (h : Szd T S) (hl : S'.length = 2 * S.length) (T' : List α) (h1 : T'.length ≤ 1024) (h2 : T'.length ≤ S.length) : Szd T' S' := by
  obtain ⟨_, h8, hp, _⟩ := h
  obtain ⟨k, hk⟩ := and_pow _ (by omega) hp
  exact ⟨h1, by omega, pow_and ⟨k + 1, by rw [hl, hk, Nat.pow_succ]; omega⟩, by omega⟩

/-! ### What is put -/
/-- What one more text does to texts and numbers; none: there is no room. -/
def stepL (x : Option (List α × List Int)) (s : α) : Option (List α × List Int) :=
  match x with
  | none => none
  | some (T, ns) => if s ∈ T then some (T, ns ++ [(pos T s : Int)]) else if T.length = 1024 then none else some (T ++ [s], ns ++ [(T.length : Int)])
def allL (T : List α) (l : List α) : Option (List α × List Int) := l.foldl stepL (some (T, []))
theorem stepL_some (T : List α) (ns : List Int) (s : α) : stepL (some (T, ns)) s = if s ∈ T then some (T, ns ++ [(pos T s : Int)]) else if T.length = 1024 then none else some (T ++ [s], ns ++ [(T.length : Int)]) := rfl
theorem foldL_none (l : List α) : l.foldl stepL none = none := by
  induction l with
  | nil => rfl
  | cons s l ih => exact ih
theorem allL_snoc (T l : List α) (s : α) : allL T (l ++ [s]) = stepL (allL T l) s := by simp [allL]
theorem allL_take_succ {T l : List α} {k : Nat} (hk : k < l.length) : allL T (l.take (k + 1)) = stepL (allL T (l.take k)) l[k] := by
  rw [List.take_succ_eq_append_getElem hk, allL_snoc]
theorem allL_none {T l : List α} {k : Nat} (h : allL T (l.take k) = none) : allL T l = none := by
  have : l = l.take k ++ l.drop k := (List.take_append_drop k l).symm
  rw [this]
  unfold allL at *
  rw [List.foldl_append, h, foldL_none]
theorem allL_len {T l T' : List α} {ns : List Int} (h : allL T l = some (T', ns)) : ns.length = l.length := by
  have key : ∀ (l : List α) (T : List α) (m : List Int) (T' : List α) (ns : List Int), l.foldl stepL (some (T, m)) = some (T', ns) → ns.length = m.length + l.length := by
    intro l
    induction l with
    | nil => intro T m T' ns h; simp at h; simp [h.2]
    | cons s l ih =>
      intro T m T' ns h
      rw [List.foldl_cons, stepL_some] at h
      split at h
      · have := ih _ _ _ _ h; simp at this ⊢; omega
      · split at h
        · rw [foldL_none] at h; cases h
        · have := ih _ _ _ _ h; simp at this ⊢; omega
  have := key l T [] T' ns h
  simpa using this
end
end Go.Proofs.Kit

