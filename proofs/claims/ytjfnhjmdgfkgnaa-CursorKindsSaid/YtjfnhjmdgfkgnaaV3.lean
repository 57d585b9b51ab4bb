/- The cursor's moves, as functions of where it stands: next, up, open. -/
import Derived.Test.YtjfnhjmdgfkgnaaV0
import Derived.Test.YtjfnhjmdgfkgnaaV2
namespace Go.Proofs.Kit
open Go.RowKit
theorem Seg.belowO {k : IntKind} {w w' : World} {o : Option Addr} {n c B : Nat} {l : List Int} (h : Seg k w (.slice o n c) l) (hb : Below B w w') (hi : ∀ a, o = some a → a.block < B) : Seg k w' (.slice o n c) l := by
  refine ⟨h.1, h.2.imp id ?_⟩
  rintro ⟨b, f, cap, e, h1, h2, h3, h4⟩
  have hB : b < B := by injection e with e _ _; exact hi _ e
  exact ⟨b, f, cap, e, h1, h2, Nat.lt_of_lt_of_le h3 hb.size, fun i hi => (hb.cell (p := ⟨b, f + i, none⟩) hB).trans (h4 i hi)⟩
theorem SegR.belowO {w w' : World} {o : Option Addr} {n c B : Nat} {l : List Br} (h : SegR w (.slice o n c) l) (hb : Below B w w') (hi : ∀ a, o = some a → a.block < B) : SegR w' (.slice o n c) l := by
  refine ⟨h.1, h.2.imp id ?_⟩
  rintro ⟨b, f, cap, e, h1, h2, h3, h4⟩
  have hB : b < B := by injection e with e _ _; exact hi _ e
  exact ⟨b, f, cap, e, h1, h2, Nat.lt_of_lt_of_le h3 hb.size, h4.below hb hB⟩
theorem Blk.set7 {w : World} {b : Nat} {v0 v1 v2 v3 v4 v5 v6 : Value} {t : TypeId} (h : Blk w b #[v0, v1, v2, v3, v4, v5, v6] t) (u0 u1 u2 u3 u4 u5 u6 : Value) :
    Blk (((((((w.setCell ⟨b, 0, none⟩ u0).setCell ⟨b, 1, none⟩ u1).setCell ⟨b, 2, none⟩ u2).setCell ⟨b, 3, none⟩ u3).setCell ⟨b, 4, none⟩ u4).setCell ⟨b, 5, none⟩ u5).setCell ⟨b, 6, none⟩ u6) b #[u0, u1, u2, u3, u4, u5, u6] t :=
  by simpa using ((((((h.set 0 u0).set 1 u1).set 2 u2).set 3 u3).set 4 u4).set 5 u5).set 6 u6
theorem below_set7 {B : Nat} {w0 w : World} (h : Below B w0 w) {b : Nat} (hb : B ≤ b) (u0 u1 u2 u3 u4 u5 u6 : Value) :
    Below B w0 (((((((w.setCell ⟨b, 0, none⟩ u0).setCell ⟨b, 1, none⟩ u1).setCell ⟨b, 2, none⟩ u2).setCell ⟨b, 3, none⟩ u3).setCell ⟨b, 4, none⟩ u4).setCell ⟨b, 5, none⟩ u5).setCell ⟨b, 6, none⟩ u6) :=
  ((((((h.setCell hb u0).setCell hb u1).setCell hb u2).setCell hb u3).setCell hb u4).setCell hb u5).setCell hb u6
end Go.Proofs.Kit
namespace Go.Proofs.Ytjfnhjmdgfkgnaa
open Go.RowKit Go.Proofs.Kit Go.Shelf

/-- A slice lies in blocks from lo on, below r. -/
def In8 (lo r : Nat) (o : Option Addr) : Prop := ∀ a, o = some a → lo ≤ a.block ∧ a.block < r
structure StM (lo r : Nat) (w : World) (bs : List Br) (lv : List Int) (X : Cs) (ob : Option Addr) (m cb : Nat) (ol : Option Addr) (q cl : Nat) (ok : Option Addr) (nk ck : Nat) (o0 : Option Addr) (n0 c0 : Nat) (o1 : Option Addr) (n1 c1 : Nat) : Prop where
  sB : SegR w (.slice ob m cb) bs
  sL : Seg .u64 w (.slice ol q cl) lv
  sK : Seg .u64 w (.slice ok nk ck) (keysB bs)
  s0 : Seg .u64 w (.slice o0 n0 c0) X.r0
  s1 : Seg .u64 w (.slice o1 n1 c1) X.r1
  iB : In8 lo r ob
  iL : In8 lo r ol
  iK : In8 lo r ok
  i0 : In8 lo r o0
  i1 : In8 lo r o1
  ck : Cok bs lv X
  ok : ok7 bs lv
  hm : bs.length ≤ 100000
  hq : lv.length ≤ 100000
  st : X.s ≤ 100000000000
/-- What where it stands is, as a value. -/
def StV (lo r : Nat) (w : World) (v : Value) (bs : List Br) (lv : List Int) (X : Cs) : Prop :=
  ∃ ob m cb ol q cl ok nk ck o0 n0 c0 o1 n1 c1, v = .agg (SC ob m cb ol q cl ok nk ck (X.d : Int) o0 n0 c0 o1 n1 c1 (X.s : Int)) ∧ StM lo r w bs lv X ob m cb ol q cl ok nk ck o0 n0 c0 o1 n1 c1
/-- What a move comes to. -/
def Res8 (lo r : Nat) (bs : List Br) (lv : List Int) (k key : Int) (X : Cs) (w : World) (e : Ending) (w' : World) : Prop :=
  Below w.heap.size w w' ∧ ((cerr k X = 0 ∧ ∃ (q : Nat) (v : Value), Lk8 k key X q ∧ e = .returned v ∧ StV lo r w' v bs lv (cgo bs lv k key q X)) ∨ (cerr k X ≠ 0 ∧ e = fault8 (cerr k X)))
theorem In8.nil (lo r : Nat) : In8 lo r none := fun _ h => by cases h
theorem StM.later {lo r : Nat} {w w' : World} {bs : List Br} {lv : List Int} {X : Cs} {ob : Option Addr} {m cb : Nat} {ol : Option Addr} {q cl : Nat} {ok : Option Addr} {nk ck : Nat} {o0 : Option Addr} {n0 c0 : Nat} {o1 : Option Addr} {n1 c1 : Nat}
    (h : StM lo r w bs lv X ob m cb ol q cl ok nk ck o0 n0 c0 o1 n1 c1) (hb : Below w.heap.size w w') : StM lo r w' bs lv X ob m cb ol q cl ok nk ck o0 n0 c0 o1 n1 c1 :=
  { h with sB := h.sB.later hb, sL := h.sL.later hb, sK := h.sK.later hb, s0 := h.s0.later hb, s1 := h.s1.later hb }
theorem StV.later {lo r : Nat} {w w' : World} {v : Value} {bs : List Br} {lv : List Int} {X : Cs} (h : StV lo r w v bs lv X) (hb : Below w.heap.size w w') : StV lo r w' v bs lv X := by
  obtain ⟨ob, m, cb, ol, q, cl, ok, nk, ck, o0, n0, c0, o1, n1, c1, e, h⟩ := h
  exact ⟨ob, m, cb, ol, q, cl, ok, nk, ck, o0, n0, c0, o1, n1, c1, e, h.later hb⟩
theorem StM.lower {lo r B : Nat} {w w' : World} {bs : List Br} {lv : List Int} {X : Cs} {ob : Option Addr} {m cb : Nat} {ol : Option Addr} {q cl : Nat} {ok : Option Addr} {nk ck : Nat} {o0 : Option Addr} {n0 c0 : Nat} {o1 : Option Addr} {n1 c1 : Nat}
    (h : StM lo r w bs lv X ob m cb ol q cl ok nk ck o0 n0 c0 o1 n1 c1) (hb : Below B w w') (hr : r ≤ B) : StM lo r w' bs lv X ob m cb ol q cl ok nk ck o0 n0 c0 o1 n1 c1 :=
  { h with sB := h.sB.belowO hb fun a ha => Nat.lt_of_lt_of_le (h.iB a ha).2 hr, sL := h.sL.belowO hb fun a ha => Nat.lt_of_lt_of_le (h.iL a ha).2 hr, sK := h.sK.belowO hb fun a ha => Nat.lt_of_lt_of_le (h.iK a ha).2 hr, s0 := h.s0.belowO hb fun a ha => Nat.lt_of_lt_of_le (h.i0 a ha).2 hr, s1 := h.s1.belowO hb fun a ha => Nat.lt_of_lt_of_le (h.i1 a ha).2 hr }
theorem StV.lower {lo r B : Nat} {w w' : World} {v : Value} {bs : List Br} {lv : List Int} {X : Cs} (h : StV lo r w v bs lv X) (hb : Below B w w') (hr : r ≤ B) : StV lo r w' v bs lv X := by
  obtain ⟨ob, m, cb, ol, q, cl, ok, nk, ck, o0, n0, c0, o1, n1, c1, e, h⟩ := h
  exact ⟨ob, m, cb, ol, q, cl, ok, nk, ck, o0, n0, c0, o1, n1, c1, e, h.lower hb hr⟩
theorem segU_len {w : World} {o : Option Addr} {n c : Nat} {l : List Int} (h : Seg .u64 w (.slice o n c) l) : l.length = n := by
  obtain ⟨o', c', e, _⟩ := h.shape
  injection e with _ e _
  exact e.symm
theorem segU_has {w : World} {o : Option Addr} {n c : Nat} {l : List Int} (h : Seg .u64 w (.slice o n c) l) (hl : 0 < n) : ∃ b f, o = some ⟨b, f, none⟩ ∧ n ≤ c ∧ c ≤ 9223372036854775807 ∧ b < w.heap.size ∧ ∀ i (h : i < l.length), w.cell? ⟨b, f + i, none⟩ = some (.int .u64 l[i]) := by
  have hn := segU_len h
  rcases h.2 with ⟨_, rfl⟩ | ⟨b, f, cap, e, h1, h2, h3, h4⟩
  · simp at hn; omega
  · injection e with e1 _ e3
    subst e1; subst e3
    exact ⟨b, f, rfl, by omega, h2, h3, h4⟩
/-- A row from a place on. -/
theorem segU_drop {w : World} {b f f' n c p : Nat} {l : List Int} (h : Seg .u64 w (.slice (some ⟨b, f, none⟩) n c) l) (hp : p ≤ n) (hf : p < n → f' = f + p) : Seg .u64 w (.slice (some ⟨b, f', none⟩) (n - p) (n - p)) (l.drop p) := by
  have hn := segU_len h
  have h1 := h.1
  rcases h.2 with ⟨e, _⟩ | ⟨b', g, cap, e, h1', h2, h3, h4⟩
  · cases e
  · injection e with e1 _ e3
    injection e1 with e1
    injection e1 with eb ef
    subst eb; subst ef
    refine ⟨by rw [List.length_drop]; omega, .inr ⟨b, f', n - p, ?_, ?_, by omega, h3, fun i hi => ?_⟩⟩
    · rw [List.length_drop, hn]
    · rw [List.length_drop, hn]; omega
    · rw [List.length_drop] at hi
      have hf' := hf (by omega)
      have := h4 (p + i) (by omega)
      rw [List.getElem_drop, hf', Nat.add_assoc]
      exact this
section
variable {lo r : Nat} {w : World} {bs : List Br} {lv : List Int} {X : Cs} {ob : Option Addr} {m cb : Nat} {ol : Option Addr} {q cl : Nat} {ok : Option Addr} {nk ck : Nat} {o0 : Option Addr} {n0 c0 : Nat} {o1 : Option Addr} {n1 c1 : Nat}
theorem con_st (h : StM lo r w bs lv X ob m cb ol q cl ok nk ck o0 n0 c0 o1 n1 c1) (hne : X.row ≠ []) (p x : Nat) (hp : p ≤ X.row.length) (hx : x ≤ 100000) (hs : X.s ≤ 90000000000) :
    Calls Try.prog 131 #[.agg (SC ob m cb ol q cl ok nk ck (X.d : Int) o0 n0 c0 o1 n1 c1 (X.s : Int)), .int .i64 (p : Int), .int .i64 (x : Int)] w fun e w' => (∃ v, e = .returned v ∧ StV lo r w' v bs lv (X.on p x)) ∧ Below w.heap.size w w' := by
  have hd2 := h.ck.d2
  have hst := h.st
  rcases (by omega : X.d = 0 ∨ X.d = 1 ∨ X.d = 2) with e | e | e
  · exact (hne (by simp [Cs.row, e])).elim
  · have ed : ((X.d : Nat) : Int) = 1 := by omega
    have er : X.row = X.r0 := by simp [Cs.row, e]
    rw [er] at hne hp
    rw [ed]
    have hn := segU_len h.s0
    have h0 : 0 < n0 := by rw [← hn]; exact List.length_pos_iff.2 hne
    obtain ⟨b, f, rfl, hc, hcm, hlt, _⟩ := segU_has h.s0 h0
    refine (con1 ob m cb ol q cl ok nk ck n0 c0 o1 n1 c1 X.s p x b f w (by omega) hc (by omega) (by omega)).mono ?_
    rintro e1 w1 ⟨f', rfl, hf', b1⟩
    refine ⟨⟨_, rfl, ⟨ob, m, cb, ol, q, cl, ok, nk, ck, some ⟨b, f', none⟩, n0 - p, n0 - p, o1, n1, c1, by rw [cs_on1 e]; rfl, ?_⟩⟩, b1⟩
    have h' := h.later b1
    have hck := h.ck.on (by omega) p x
    rw [cs_on1 e] at hck ⊢
    exact { h' with s0 := segU_drop h'.s0 (by omega) hf', i0 := fun a ha => (by injection ha with ha; subst ha; exact h.i0 ⟨b, f, none⟩ rfl), ck := hck, st := by simp only; omega }
  · have ed : ((X.d : Nat) : Int) = 2 := by omega
    have er : X.row = X.r1 := by simp [Cs.row, e]
    rw [er] at hne hp
    rw [ed]
    have hn := segU_len h.s1
    have h0 : 0 < n1 := by rw [← hn]; exact List.length_pos_iff.2 hne
    obtain ⟨b, f, rfl, hc, hcm, hlt, _⟩ := segU_has h.s1 h0
    refine (con2 ob m cb ol q cl ok nk ck o0 n0 c0 n1 c1 X.s p x b f w (by omega) hc (by omega) (by omega)).mono ?_
    rintro e1 w1 ⟨f', rfl, hf', b1⟩
    refine ⟨⟨_, rfl, ⟨ob, m, cb, ol, q, cl, ok, nk, ck, o0, n0, c0, some ⟨b, f', none⟩, n1 - p, n1 - p, by rw [cs_on2 e]; rfl, ?_⟩⟩, b1⟩
    have h' := h.later b1
    have hck := h.ck.on (by omega) p x
    rw [cs_on2 e] at hck ⊢
    exact { h' with s1 := segU_drop h'.s1 (by omega) hf', i1 := fun a ha => (by injection ha with ha; subst ha; exact h.i1 ⟨b, f, none⟩ rfl), ck := hck, st := by simp only; omega }
theorem cmust_st (h : StM lo r w bs lv X ob m cb ol q cl ok nk ck o0 n0 c0 o1 n1 c1) :
    Calls Try.prog 130 #[.agg (SC ob m cb ol q cl ok nk ck (X.d : Int) o0 n0 c0 o1 n1 c1 (X.s : Int))] w fun e w' => Below w.heap.size w w' ∧ ((cerr 3 X = 0 ∧ X.row ≠ [] ∧ e = .returned (.tuple #[])) ∨ (cerr 3 X ≠ 0 ∧ e = fault8 (cerr 3 X))) := by
  have hd2 := h.ck.d2
  rcases (by omega : X.d = 0 ∨ X.d = 1 ∨ X.d = 2) with e | e | e
  · have ed : ((X.d : Nat) : Int) = 0 := by omega
    rw [ed]
    refine (cmust0 _ _ _ _ _ _ _ _ _ _ _ _ _ _ _ _ w).mono ?_
    rintro e1 w1 ⟨rfl, b1⟩
    exact ⟨b1, .inr ⟨by simp [cerr, e], by simp [cerr, e]⟩⟩
  · have ed : ((X.d : Nat) : Int) = 1 := by omega
    have er : X.row = X.r0 := by simp [Cs.row, e]
    rw [ed]
    have hn := segU_len h.s0
    by_cases hr : X.r0 = []
    · refine (cmust1_no _ _ _ _ _ _ _ _ _ _ _ _ _ _ _ _ w (by rw [← hn, hr]; rfl)).mono ?_
      rintro e1 w1 ⟨rfl, b1⟩
      exact ⟨b1, .inr ⟨by simp [cerr, e, er, hr], by simp [cerr, e, er, hr]⟩⟩
    · refine (cmust1 _ _ _ _ _ _ _ _ _ _ _ _ _ _ _ _ w (by rw [← hn]; exact List.length_pos_iff.2 hr)).mono ?_
      rintro e1 w1 ⟨rfl, b1⟩
      exact ⟨b1, .inl ⟨by simp [cerr, e, er, hr], by rw [er]; exact hr, rfl⟩⟩
  · have ed : ((X.d : Nat) : Int) = 2 := by omega
    have er : X.row = X.r1 := by simp [Cs.row, e]
    rw [ed]
    have hn := segU_len h.s1
    by_cases hr : X.r1 = []
    · refine (cmust2_no _ _ _ _ _ _ _ _ _ _ _ _ _ _ _ _ w (by rw [← hn, hr]; rfl)).mono ?_
      rintro e1 w1 ⟨rfl, b1⟩
      exact ⟨b1, .inr ⟨by simp [cerr, e, er, hr], by simp [cerr, e, er, hr]⟩⟩
    · refine (cmust2 _ _ _ _ _ _ _ _ _ _ _ _ _ _ _ _ w (by rw [← hn]; exact List.length_pos_iff.2 hr)).mono ?_
      rintro e1 w1 ⟨rfl, b1⟩
      exact ⟨b1, .inl ⟨by simp [cerr, e, er, hr], by rw [er]; exact hr, rfl⟩⟩
theorem row_len (h : StM lo r w bs lv X ob m cb ol q cl ok nk ck o0 n0 c0 o1 n1 c1) : X.row.length ≤ 100000 := by
  have h1 := h.ck.len0
  have h2 := h.hm
  have h3 := h.hq
  have hd2 := h.ck.d2
  unfold Cs.row
  split
  · simp
  · split
    · omega
    · obtain ⟨_, j, ej⟩ := h.ck.r1 (by omega)
      rw [ej, List.length_drop]
      have := (lvs_sub lv (brAt bs X)).length_le
      omega
end
end Go.Proofs.Ytjfnhjmdgfkgnaa

