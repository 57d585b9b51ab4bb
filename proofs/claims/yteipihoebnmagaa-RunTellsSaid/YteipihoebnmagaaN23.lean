/- RunJoins: the law's walk. -/
import Derived.Test.YteipihoebnmagaaN21
namespace Go.Proofs.Kit
open Go.RowKit
theorem flat_set2 : ∀ (l : List Pr) (i : Nat) (h : i < l.length) (y : Int), flat (l.set i (l[i].1, y)) = (flat l).set (i * 2 + 1) (.int .u64 y)
  | [], i, h, y => by simp at h
  | p :: t, 0, h, y => by simp [flat]
  | p :: t, i + 1, h, y => by
    have := flat_set2 t i (by simpa using h) y
    rw [List.set_cons_succ, flat, flat, List.getElem_cons_succ, this, show (i + 1) * 2 + 1 = i * 2 + 1 + 1 + 1 by omega]
    simp [List.set_cons_succ]
theorem flat_set1 : ∀ (l : List Pr) (i : Nat) (h : i < l.length) (y : Int), flat (l.set i (y, l[i].2)) = (flat l).set (i * 2) (.int .u64 y)
  | [], i, h, y => by simp at h
  | p :: t, 0, h, y => by simp [flat]
  | p :: t, i + 1, h, y => by
    have := flat_set1 t i (by simpa using h) y
    rw [List.set_cons_succ, flat, flat, List.getElem_cons_succ, this, show (i + 1) * 2 = i * 2 + 1 + 1 by omega]
    simp [List.set_cons_succ]
theorem OwnP.storeAt {t : TypeId} {B : Nat} {w : World} {l m : List Pr} {g n cap j : Nat} {u : Value} (h : OwnP t B w (.slice (some ⟨g, 0, none⟩) n cap) l) (hl : m.length = l.length) (hm : flat m = (flat l).set j u) : OwnP t B (w.setCell ⟨g, j, none⟩ u) (.slice (some ⟨g, 0, none⟩) n cap) m := by
  obtain ⟨h1, h2, h3⟩ := h
  rcases h3 with ⟨e, _⟩ | ⟨g', cap', cur, e, hg, hb, hc, hm', hs, ht⟩
  · cases e
  · injection e with e1 e2 e3
    injection e1 with e1
    injection e1 with e1 _ _
    subst e1 e3
    have hb' : Blk w g cur t := hb
    have := OwnP.of_blk (t := t) (l := m) hg (hb'.set j u) (cap := cap) (by omega) (by unfold maxLen at hm'; omega) (by omega) (by simpa using hs) (by
      rw [hm, hl, ← ht]
      simp only [Array.toList_setIfInBounds, List.take_set])
    rw [hl, ← e2] at this
    exact this
theorem OwnP.other {t : TypeId} {B : Nat} {w : World} {v : Value} {l : List Pr} (h : OwnP t B w v l) {g : Nat} (hg : ∀ g', v.ownBlock = some g' → g' ≠ g) (j : Nat) (u : Value) : OwnP t B (w.setCell ⟨g, j, none⟩ u) v l := h.same fun g' hg' => Below.heap_setCell _ _ _ _ (hg g' hg')
/-- Three rows of pairs, one behind the other. -/
structure T3 (t : TypeId) (b3 b4 b5 : Nat) (vu vm vn : Value) (nu nm nn : Nat) (wr : World) : Prop where
  u : ∃ U : List Pr, U.length = nu ∧ OwnP t b3 wr vu U
  m : ∃ M : List Pr, M.length = nm ∧ OwnP t b4 wr vm M
  n : ∃ N : List Pr, N.length = nn ∧ OwnP t b5 wr vn N
  hu : ∀ g, vu.ownBlock = some g → g < b4
  hm : ∀ g, vm.ownBlock = some g → g < b5
  h34 : b3 ≤ b4
  h45 : b4 ≤ b5
theorem T3.later {t : TypeId} {b3 b4 b5 : Nat} {vu vm vn : Value} {nu nm nn : Nat} {wr w' : World} (h : T3 t b3 b4 b5 vu vm vn nu nm nn wr) (hb : Below wr.heap.size wr w') : T3 t b3 b4 b5 vu vm vn nu nm nn w' := by
  obtain ⟨U, u1, u2⟩ := h.u
  obtain ⟨M, m1, m2⟩ := h.m
  obtain ⟨N, n1, n2⟩ := h.n
  exact ⟨⟨U, u1, u2.later hb⟩, ⟨M, m1, m2.later hb⟩, ⟨N, n1, n2.later hb⟩, h.hu, h.hm, h.h34, h.h45⟩
theorem OwnP.second {t : TypeId} {B : Nat} {w : World} {o : Option Addr} {n c q : Nat} {l : List Pr} (h : OwnP t B w (.slice o n c) l) (hq : q < l.length) : ∃ g y, o = some ⟨g, 0, none⟩ ∧ l.length = n ∧ n ≤ c ∧ c ≤ 9223372036854775807 ∧ B ≤ g ∧ g < w.heap.size ∧ w.cell? ⟨g, q * 2 + 1, none⟩ = some (.int .u64 y) ∧ w.frozen? ⟨g, q * 2 + 1, none⟩ = false ∧ ∀ y', OwnP t B (w.setCell ⟨g, q * 2 + 1, none⟩ (.int .u64 y')) (.slice o n c) (l.set q (l[q].1, y')) := by
  obtain ⟨g, cap, cur, e, h1, h2, h3, hg, hb, h4⟩ := h.blk (by omega)
  injection e with e1 e2 e3
  subst e1 e3
  obtain ⟨hc, hf, hlt, _, hn⟩ := h.facts
  have d := (hc q hq).2
  rw [Nat.zero_add] at d
  exact ⟨g, l[q].2, rfl, hn, by omega, h2, hg, hlt, d, hf _, fun y' => h.storeAt (by simp) (flat_set2 l q hq y')⟩
theorem T3.atu {t : TypeId} {b3 b4 b5 : Nat} {vu vm vn : Value} {o : Option Addr} {c : Nat} {nu nm nn q : Nat} {wr : World} (h : T3 t b3 b4 b5 vu vm vn nu nm nn wr) (hv : vu = .slice o nu c) (hq : q < nu) :
    ∃ g y, o = some ⟨g, 0, none⟩ ∧ nu ≤ c ∧ c ≤ 9223372036854775807 ∧ b3 ≤ g ∧ g < wr.heap.size ∧ wr.cell? ⟨g, q * 2 + 1, none⟩ = some (.int .u64 y) ∧ wr.frozen? ⟨g, q * 2 + 1, none⟩ = false ∧ vu.ownBlock = some g ∧ ∀ y', T3 t b3 b4 b5 vu vm vn nu nm nn (wr.setCell ⟨g, q * 2 + 1, none⟩ (.int .u64 y')) := by
  obtain ⟨U, u1, u2⟩ := h.u
  obtain ⟨M, m1, m2⟩ := h.m
  obtain ⟨N, n1, n2⟩ := h.n
  have h34 := h.h34
  have h45 := h.h45
  have hh := u2
  rw [hv] at hh
  obtain ⟨g, y, rfl, _, k1, k2, k3, k4, k5, k6, k7⟩ := hh.second (q := q) (by omega)
  have hob : vu.ownBlock = some g := by rw [hv]; rfl
  refine ⟨g, y, rfl, k1, k2, by omega, k4, k5, k6, hob, fun y' => ?_⟩
  have kk := k7 y'
  rw [← hv] at kk
  exact ⟨⟨_, by simp [u1], kk⟩, ⟨M, m1, m2.other (fun g2 e => by have := (m2.lt g2 e).1; have := h.hu g hob; omega) _ _⟩, ⟨N, n1, n2.other (fun g2 e => by have := (n2.lt g2 e).1; have := h.hu g hob; omega) _ _⟩, h.hu, h.hm, h34, h45⟩
theorem T3.atm {t : TypeId} {b3 b4 b5 : Nat} {vu vm vn : Value} {o : Option Addr} {c : Nat} {nu nm nn q : Nat} {wr : World} (h : T3 t b3 b4 b5 vu vm vn nu nm nn wr) (hv : vm = .slice o nm c) (hq : q < nm) :
    ∃ g y, o = some ⟨g, 0, none⟩ ∧ nm ≤ c ∧ c ≤ 9223372036854775807 ∧ b3 ≤ g ∧ g < wr.heap.size ∧ wr.cell? ⟨g, q * 2 + 1, none⟩ = some (.int .u64 y) ∧ wr.frozen? ⟨g, q * 2 + 1, none⟩ = false ∧ vm.ownBlock = some g ∧ ∀ y', T3 t b3 b4 b5 vu vm vn nu nm nn (wr.setCell ⟨g, q * 2 + 1, none⟩ (.int .u64 y')) := by
  obtain ⟨U, u1, u2⟩ := h.u
  obtain ⟨M, m1, m2⟩ := h.m
  obtain ⟨N, n1, n2⟩ := h.n
  have h34 := h.h34
  have h45 := h.h45
  have hh := m2
  rw [hv] at hh
  obtain ⟨g, y, rfl, _, k1, k2, k3, k4, k5, k6, k7⟩ := hh.second (q := q) (by omega)
  have hob : vm.ownBlock = some g := by rw [hv]; rfl
  refine ⟨g, y, rfl, k1, k2, by omega, k4, k5, k6, hob, fun y' => ?_⟩
  have kk := k7 y'
  rw [← hv] at kk
  exact ⟨⟨U, u1, u2.other (fun g2 e => by have := h.hu g2 e; omega) _ _⟩, ⟨_, by simp [m1], kk⟩, ⟨N, n1, n2.other (fun g2 e => by have := (n2.lt g2 e).1; have := h.hm g hob; omega) _ _⟩, h.hu, h.hm, h34, h45⟩
theorem T3.atn {t : TypeId} {b3 b4 b5 : Nat} {vu vm vn : Value} {o : Option Addr} {c : Nat} {nu nm nn q : Nat} {wr : World} (h : T3 t b3 b4 b5 vu vm vn nu nm nn wr) (hv : vn = .slice o nn c) (hq : q < nn) :
    ∃ g y, o = some ⟨g, 0, none⟩ ∧ nn ≤ c ∧ c ≤ 9223372036854775807 ∧ b3 ≤ g ∧ g < wr.heap.size ∧ wr.cell? ⟨g, q * 2 + 1, none⟩ = some (.int .u64 y) ∧ wr.frozen? ⟨g, q * 2 + 1, none⟩ = false ∧ vn.ownBlock = some g ∧ ∀ y', T3 t b3 b4 b5 vu vm vn nu nm nn (wr.setCell ⟨g, q * 2 + 1, none⟩ (.int .u64 y')) := by
  obtain ⟨U, u1, u2⟩ := h.u
  obtain ⟨M, m1, m2⟩ := h.m
  obtain ⟨N, n1, n2⟩ := h.n
  have h34 := h.h34
  have h45 := h.h45
  have hh := n2
  rw [hv] at hh
  obtain ⟨g, y, rfl, _, k1, k2, k3, k4, k5, k6, k7⟩ := hh.second (q := q) (by omega)
  have hob : vn.ownBlock = some g := by rw [hv]; rfl
  refine ⟨g, y, rfl, k1, k2, by omega, k4, k5, k6, hob, fun y' => ?_⟩
  have kk := k7 y'
  rw [← hv] at kk
  exact ⟨⟨U, u1, u2.other (fun g2 e => by have := h.hu g2 e; omega) _ _⟩, ⟨M, m1, m2.other (fun g2 e => by have := h.hm g2 e; omega) _ _⟩, ⟨_, by simp [n1], kk⟩, h.hu, h.hm, h34, h45⟩
end Go.Proofs.Kit
namespace Go.Proofs.Yteipihoebnmagaa
open Go.RowKit Go.Proofs.Kit
theorem kept_yes {a b : List Pr} (h : okP a ∧ okP b) : (a.filter fun x => decide (x ∈ b) == true) = cmb false true false a b := by
  refine run_ext (h.1.1.sub List.filter_sublist) (cmb_run _ _ _ _ _) fun p => ?_
  rw [cmb_mem h, List.mem_filter]
  by_cases h1 : p ∈ a <;> by_cases h2 : p ∈ b <;> simp [h1, h2]
theorem kept_no {a b : List Pr} (h : okP a ∧ okP b) : (a.filter fun x => decide (x ∈ b) == false) = cmb true false false a b := by
  refine run_ext (h.1.1.sub List.filter_sublist) (cmb_run _ _ _ _ _) fun p => ?_
  rw [cmb_mem h, List.mem_filter]
  by_cases h1 : p ∈ a <;> by_cases h2 : p ∈ b <;> simp [h1, h2]
theorem union_of {a b : List Pr} (h : okP a ∧ okP b) : ofP (a ++ b) = cmb true true true a b := by
  refine (ofP_of (cmb_run _ _ _ _ _) fun p => ?_).symm
  rw [cmb_mem h, List.mem_append]
  by_cases h1 : p ∈ a <;> by_cases h2 : p ∈ b <;> simp [h1, h2]
set_option maxRecDepth 100000 in
set_option maxHeartbeats 8000000 in
theorem joins_true (ox : Option Addr) (nx cx : Nat) (X : List Pr) (oy : Option Addr) (ny cy : Nat) (Y : List Pr) (w : World)
    (hlx : X.length = nx) (hcx : nx ≤ cx) (hmx : cx ≤ 9223372036854775807) (hx : ArgP w ox cx X) (hly : Y.length = ny) (hcy : ny ≤ cy) (hmy : cy ≤ 9223372036854775807) (hy : ArgP w oy cy Y) :
    Calls Try.prog 5 #[.slice ox nx cx, .slice oy ny cy] w fun e w' => e = .returned (.bool true) ∧ Below w.heap.size w w' := by
  have HLX := Lib.hid hlx
  have HLY := Lib.hid hly
  have HX := Lib.hid hx
  have HY := Lib.hid hy
  clear hlx hly hx hy
  obtain ⟨A, hA⟩ : ∃ A, A = X.take 40 := ⟨_, rfl⟩
  obtain ⟨B, hB⟩ : ∃ B, B = Y.take 40 := ⟨_, rfl⟩
  have hA40 : A.length ≤ 40 := by rw [hA]; simp; omega
  have hB40 : B.length ≤ 40 := by rw [hB]; simp; omega
  have HA := Lib.hid hA
  have HB := Lib.hid hB
  clear hA hB
  go_enter Try.func5, Try.ntmps5
  go_wp2_with fail
  refine (wakes_true _).mono ?_
  rintro e w1 ⟨rfl, B1⟩
  go_wp2_with fail
  refine (fewP_any ox nx cx X _ HLX.out hcx hmx (HX.out.later B1)).mono ?_
  rw [← HA.out]
  rintro e w2 ⟨va, rfl, oa, b2⟩
  have B2 := below_later B1 b2
  have OA := Lib.hid oa.seg
  obtain ⟨pa, ca, rfl⟩ := oa.shape
  clear oa b2 B1
  go_wp2_with fail
  refine (fewP_any oy ny cy Y _ HLY.out hcy hmy (HY.out.later B2)).mono ?_
  rw [← HB.out]
  rintro e w3 ⟨vb, rfl, ob, b3⟩
  have B3 := below_later B2 b3
  have OB := Lib.hid ob.seg
  have OA := Lib.hid (OA.out.later b3)
  obtain ⟨pb, cb, rfl⟩ := ob.shape
  clear ob b3 B2
  go_wp2_with fail
  refine (union_any _ _ A B _ OA.out OB.out (by omega)).mono ?_
  rintro e w4 ⟨vu, rfl, ou, b4⟩
  have hul := ou.lt
  have OU := Lib.hid ou
  obtain ⟨pu, cu, rfl⟩ := ou.shape
  have B34 : Below w3.heap.size w3 w4 := b4
  have OA4 := Lib.hid (OA.out.later b4)
  have OB4 := Lib.hid (OB.out.later b4)
  have HUL := Lib.hid hul
  clear ou b4 hul
  go_wp2_with fail
  refine (minus_any _ _ A B _ OA4.out OB4.out (by omega)).mono ?_
  rintro e w5 ⟨vm, rfl, om, b5⟩
  have hml := om.lt
  have OM := Lib.hid om
  obtain ⟨pm, cm, rfl⟩ := om.shape
  have B35 := below_later B34 b5
  have h45 := b5.size
  have OA5 := Lib.hid (OA4.out.later b5)
  have OB5 := Lib.hid (OB4.out.later b5)
  have OU5 := Lib.hid (OU.out.later b5)
  have HML := Lib.hid hml
  clear om b5 hml OA4 OB4 OU
  go_wp2_with fail
  refine (meet_any _ _ A B _ OA5.out OB5.out (by omega)).mono ?_
  rintro e w6 ⟨vn, rfl, on, b6⟩
  have ON := Lib.hid on
  obtain ⟨pn, cn, rfl⟩ := on.shape
  have B36 := below_later B35 b6
  have OA6 := Lib.hid (OA5.out.later b6)
  have OB6 := Lib.hid (OB5.out.later b6)
  have OU6 := Lib.hid (OU5.out.later b6)
  have OM6 := Lib.hid (OM.out.later b6)
  clear on b6 OA5 OB5 OU5 OM
  by_cases hok : okP A ∧ okP B
  · have hck := ck2_yes hok
    have hdA : decide (okP A) = true := by simpa using hok.1
    have hdB : decide (okP B) = true := by simpa using hok.2
    have HKU := Lib.hid (union_of hok)
    have HKM := Lib.hid (kept_no hok)
    have HKN := Lib.hid (kept_yes hok)
    have hu1 := cmb_le true true true A B
    have hm1 := cmb_le true false false A B
    have hn1 := cmb_le false true false A B
    obtain ⟨U, hU⟩ : ∃ U, U = cmb true true true A B := ⟨_, rfl⟩
    obtain ⟨M, hM⟩ : ∃ M, M = cmb true false false A B := ⟨_, rfl⟩
    obtain ⟨N, hN⟩ : ∃ N, N = cmb false true false A B := ⟨_, rfl⟩
    rw [← hU] at hu1 HKU OU6 HUL
    rw [← hM] at hm1 HKM OM6 HML
    rw [← hN] at hn1 HKN ON
    rw [← hU, ← hM, ← hN, hck]
    have HDA := Lib.hid hdA
    have HDB := Lib.hid hdB
    clear hck hdA hdB hok hU hM hN
    go_wp2_with fail
    refine (right_any _ A _ OA6.out).mono ?_
    rw [HDA.out]
    rintro e w7 ⟨rfl, g7⟩
    have B37 := below_later B36 g7.below
    have OA7 := Lib.hid (OA6.out.later g7.below)
    have OB7 := Lib.hid (OB6.out.later g7.below)
    have OU7 := Lib.hid (OU6.out.later g7.below)
    have OM7 := Lib.hid (OM6.out.later g7.below)
    have ON7 := Lib.hid (ON.out.later g7.below)
    clear g7 OA6 OB6 OU6 OM6 ON
    go_wp2_with fail
    refine (right_any _ B _ OB7.out).mono ?_
    rw [HDB.out]
    rintro e w8 ⟨rfl, g8⟩
    have B38 := below_later B37 g8.below
    have OA8 := Lib.hid (OA7.out.later g8.below)
    have OB8 := Lib.hid (OB7.out.later g8.below)
    have OU8 := Lib.hid (OU7.out.later g8.below)
    have OM8 := Lib.hid (OM7.out.later g8.below)
    have ON8 := Lib.hid (ON7.out.later g8.below)
    clear g8 OA7 OB7 OU7 OM7 ON7
    go_wp2_with fail
    refine (dunion_any _ A _ B _ OA8.out (by omega) OB8.out (by omega)).mono ?_
    rw [HKU.out]
    rintro e w9 ⟨v9, rfl, o9, b9⟩
    have B39 := below_later B38 b9
    have OA9 := Lib.hid (OA8.out.later b9)
    have OB9 := Lib.hid (OB8.out.later b9)
    have OU9 := Lib.hid (OU8.out.later b9)
    have OM9 := Lib.hid (OM8.out.later b9)
    have ON9 := Lib.hid (ON8.out.later b9)
    have O9 := Lib.hid o9.seg
    clear b9 o9 OA8 OB8 OU8 OM8 ON8
    go_wp2_with fail
    refine (equalP_seg _ _ U U _ OU9.out.seg O9.out).mono ?_
    rw [show decide (U = U) = true from by simp]
    rintro e w10 ⟨rfl, g10⟩
    have B310 := below_later B39 g10.below
    have OA10 := Lib.hid (OA9.out.later g10.below)
    have OB10 := Lib.hid (OB9.out.later g10.below)
    have OU10 := Lib.hid (OU9.out.later g10.below)
    have OM10 := Lib.hid (OM9.out.later g10.below)
    have ON10 := Lib.hid (ON9.out.later g10.below)
    clear g10 OA9 OB9 OU9 OM9 ON9 O9
    go_wp2_with fail
    refine (dkept_any _ A _ B false _ OA10.out (by omega) OB10.out).mono ?_
    rw [HKM.out]
    rintro e w11 ⟨v11, rfl, o11, b11⟩
    have B311 := below_later B310 b11
    have OA11 := Lib.hid (OA10.out.later b11)
    have OB11 := Lib.hid (OB10.out.later b11)
    have OU11 := Lib.hid (OU10.out.later b11)
    have OM11 := Lib.hid (OM10.out.later b11)
    have ON11 := Lib.hid (ON10.out.later b11)
    have O11 := Lib.hid o11.seg
    clear b11 o11 OA10 OB10 OU10 OM10 ON10
    go_wp2_with fail
    refine (equalP_seg _ _ M M _ OM11.out.seg O11.out).mono ?_
    rw [show decide (M = M) = true from by simp]
    rintro e w12 ⟨rfl, g12⟩
    have B312 := below_later B311 g12.below
    have OA12 := Lib.hid (OA11.out.later g12.below)
    have OB12 := Lib.hid (OB11.out.later g12.below)
    have OU12 := Lib.hid (OU11.out.later g12.below)
    have OM12 := Lib.hid (OM11.out.later g12.below)
    have ON12 := Lib.hid (ON11.out.later g12.below)
    clear g12 OA11 OB11 OU11 OM11 ON11 O11
    go_wp2_with fail
    refine (dkept_any _ A _ B true _ OA12.out (by omega) OB12.out).mono ?_
    rw [HKN.out]
    rintro e w13 ⟨v13, rfl, o13, b13⟩
    have B313 := below_later B312 b13
    have OU13 := Lib.hid (OU12.out.later b13)
    have OM13 := Lib.hid (OM12.out.later b13)
    have ON13 := Lib.hid (ON12.out.later b13)
    have O13 := Lib.hid o13.seg
    clear b13 o13 OA12 OB12 OU12 OM12 ON12
    go_wp2_with fail
    refine (equalP_seg _ _ N N _ ON13.out.seg O13.out).mono ?_
    rw [show decide (N = N) = true from by simp]
    rintro e w14 ⟨rfl, g14⟩
    have B314 := below_later B313 g14.below
    have hu80 : U.length ≤ 80 := by omega
    have hm80 : M.length ≤ 80 := by omega
    have hn80 : N.length ≤ 80 := by omega
    obtain ⟨nu, hnu⟩ : ∃ n, n = U.length := ⟨_, rfl⟩
    obtain ⟨nm, hnm⟩ : ∃ n, n = M.length := ⟨_, rfl⟩
    obtain ⟨nn, hnn⟩ : ∃ n, n = N.length := ⟨_, rfl⟩
    have h34 := B34.size
    have t3 : T3 30 w3.heap.size w4.heap.size w5.heap.size (.slice pu nu cu) (.slice pm nm cm) (.slice pn nn cn) nu nm nn w14 := by
      rw [hnu, hnm, hnn]
      exact ⟨⟨U, rfl, OU13.out.later g14.below⟩, ⟨M, rfl, OM13.out.later g14.below⟩, ⟨N, rfl, ON13.out.later g14.below⟩, fun g hg => (HUL.out g hg).2, fun g hg => (HML.out g hg).2, h34, h45⟩
    rw [← hnu] at hu80 ⊢
    rw [← hnm] at hm80 ⊢
    rw [← hnn] at hn80 ⊢
    have HT3 := Lib.hid t3
    clear g14 OU13 OM13 ON13 O13 hnu hnm hnn t3 hu1 hm1 hn1
    go_wp2
    obtain ⟨wl, hwl⟩ : ∃ wl, wl = w14.alloc (.cells #[.slice pu nu cu, .slice pm nm cm, .slice pn nn cn] 22) := ⟨_, rfl⟩
    have bl : Blk wl w14.heap.size #[.slice pu nu cu, .slice pm nm cm, .slice pn nn cn] 22 := by rw [hwl]; exact Blk.new _ _ _
    have bwl : Below w14.heap.size w14 wl := by rw [hwl]; exact (Below.refl _ _).alloc (Nat.le_refl _) _
    have HT3 := Lib.hid (HT3.out.later bwl)
    have B3L := below_later B314 bwl
    obtain ⟨r, hr⟩ : ∃ r, r = w14.heap.size := ⟨_, rfl⟩
    rw [← hwl]
    rw [← hr] at bl ⊢
    have BL := Lib.hid bl
    have hr3 : w3.heap.size ≤ r := by rw [hr]; exact B314.size
    clear hwl bl bwl hr
    go_loopw [110] (fun i wr => ∃ k : Nat, k ≤ 3 ∧ i = .int .i64 (k : Int) ∧ Hid (T3 30 w3.heap.size w4.heap.size w5.heap.size (.slice pu nu cu) (.slice pm nm cm) (.slice pn nn cn) nu nm nn wr) ∧ Hid (Blk wr r #[.slice pu nu cu, .slice pm nm cm, .slice pn nn cn] 22) ∧ Below w3.heap.size w3 wr) (fun i _ => 3 - (intOf i).toNat)
    case atStart => exact ⟨0, by omega, rfl, HT3, BL, B3L⟩
    case round =>
      obtain ⟨k, hk, rfl, HT, HBL, hB3⟩ := hrel
      have k0 := HBL.out.cell 0
      have k1 := HBL.out.cell 1
      have k2 := HBL.out.cell 2
      simp only [List.getElem?_toArray, List.getElem?_cons_zero, List.getElem?_cons_succ] at k0 k1 k2
      have hk4 : k = 0 ∨ k = 1 ∨ k = 2 ∨ k = 3 := by omega
      rcases hk4 with rfl | rfl | rfl | rfl
      · clear hk
        go_wp2
        clear k0 k1 k2
        go_loopw [116] (fun i wr => ∃ q : Nat, q ≤ nu ∧ i = .int .i64 (q : Int) ∧ Hid (T3 30 w3.heap.size w4.heap.size w5.heap.size (.slice pu nu cu) (.slice pm nm cm) (.slice pn nn cn) nu nm nn wr) ∧ Hid (Blk wr r #[.slice pu nu cu, .slice pm nm cm, .slice pn nn cn] 22) ∧ Below w3.heap.size w3 wr) (fun i _ => nu - (intOf i).toNat)
        case atStart => exact ⟨0, by omega, rfl, HT, HBL, hB3⟩
        case round =>
          obtain ⟨q, hq, rfl, HT, HBL, hB3⟩ := hrel
          by_cases hlt : q < nu
          · obtain ⟨g, y, hp, kc, kc2, kb, kg, kd, kf, kob, kT⟩ := HT.out.atu rfl hlt
            have hne : r ≠ g := fun e => by
              obtain ⟨Z, _, hZ⟩ := HT.out.u
              exact hZ.ne_blk HBL.out (by decide) (by rw [kob, e])
            have KT := Lib.hid kT
            have HNE := Lib.hid hne
            subst hp
            clear kT hne kob
            go_wp2
            go_roundw
            case rel => exact ⟨q + 1, by omega, by go_num, Lib.hid (KT.out _), Lib.hid (HBL.out.other HNE.out _), hB3.setCell kb _⟩
            case measure => simp [intOf]; omega
          · go_wp2
            go_roundw
            case rel => exact ⟨1, by omega, rfl, HT, HBL, hB3⟩
            case measure => simp [intOf]
      · clear hk
        go_wp2
        clear k0 k1 k2
        go_loopw [116] (fun i wr => ∃ q : Nat, q ≤ nm ∧ i = .int .i64 (q : Int) ∧ Hid (T3 30 w3.heap.size w4.heap.size w5.heap.size (.slice pu nu cu) (.slice pm nm cm) (.slice pn nn cn) nu nm nn wr) ∧ Hid (Blk wr r #[.slice pu nu cu, .slice pm nm cm, .slice pn nn cn] 22) ∧ Below w3.heap.size w3 wr) (fun i _ => nm - (intOf i).toNat)
        case atStart => exact ⟨0, by omega, rfl, HT, HBL, hB3⟩
        case round =>
          obtain ⟨q, hq, rfl, HT, HBL, hB3⟩ := hrel
          by_cases hlt : q < nm
          · obtain ⟨g, y, hp, kc, kc2, kb, kg, kd, kf, kob, kT⟩ := HT.out.atm rfl hlt
            have hne : r ≠ g := fun e => by
              obtain ⟨Z, _, hZ⟩ := HT.out.m
              exact hZ.ne_blk HBL.out (by decide) (by rw [kob, e])
            have KT := Lib.hid kT
            have HNE := Lib.hid hne
            subst hp
            clear kT hne kob
            go_wp2
            go_roundw
            case rel => exact ⟨q + 1, by omega, by go_num, Lib.hid (KT.out _), Lib.hid (HBL.out.other HNE.out _), hB3.setCell kb _⟩
            case measure => simp [intOf]; omega
          · go_wp2
            go_roundw
            case rel => exact ⟨2, by omega, rfl, HT, HBL, hB3⟩
            case measure => simp [intOf]
      · clear hk
        go_wp2
        clear k0 k1 k2
        go_loopw [116] (fun i wr => ∃ q : Nat, q ≤ nn ∧ i = .int .i64 (q : Int) ∧ Hid (T3 30 w3.heap.size w4.heap.size w5.heap.size (.slice pu nu cu) (.slice pm nm cm) (.slice pn nn cn) nu nm nn wr) ∧ Hid (Blk wr r #[.slice pu nu cu, .slice pm nm cm, .slice pn nn cn] 22) ∧ Below w3.heap.size w3 wr) (fun i _ => nn - (intOf i).toNat)
        case atStart => exact ⟨0, by omega, rfl, HT, HBL, hB3⟩
        case round =>
          obtain ⟨q, hq, rfl, HT, HBL, hB3⟩ := hrel
          by_cases hlt : q < nn
          · obtain ⟨g, y, hp, kc, kc2, kb, kg, kd, kf, kob, kT⟩ := HT.out.atn rfl hlt
            have hne : r ≠ g := fun e => by
              obtain ⟨Z, _, hZ⟩ := HT.out.n
              exact hZ.ne_blk HBL.out (by decide) (by rw [kob, e])
            have KT := Lib.hid kT
            have HNE := Lib.hid hne
            subst hp
            clear kT hne kob
            go_wp2
            go_roundw
            case rel => exact ⟨q + 1, by omega, by go_num, Lib.hid (KT.out _), Lib.hid (HBL.out.other HNE.out _), hB3.setCell kb _⟩
            case measure => simp [intOf]; omega
          · go_wp2
            go_roundw
            case rel => exact ⟨3, by omega, rfl, HT, HBL, hB3⟩
            case measure => simp [intOf]
      · clear hk k0 k1 k2
        have B3' := B3.trans (hB3.mono B3.size)
        have OAz := Lib.hid (OA.out.below hB3 (Nat.le_refl _))
        have OBz := Lib.hid (OB.out.below hB3 (Nat.le_refl _))
        clear hB3
        go_wp2_with fail
        refine (fewP_any ox nx cx X _ HLX.out hcx hmx (HX.out.later B3')).mono ?_
        rw [← HA.out]
        rintro e w20 ⟨v20, rfl, o20, b20⟩
        have B20 := below_later B3' b20
        have OAy := Lib.hid (OAz.out.later b20)
        have OBy := Lib.hid (OBz.out.later b20)
        have O20 := Lib.hid o20.seg
        clear b20 o20 OAz OBz
        go_wp2_with fail
        refine (equalP_seg _ _ A A _ OAy.out O20.out).mono ?_
        rw [show decide (A = A) = true from by simp]
        rintro e w21 ⟨rfl, g21⟩
        have B21 := below_later B20 g21.below
        have OBx := Lib.hid (OBy.out.later g21.below)
        clear g21 OAy OBy O20
        go_wp2_with fail
        refine (fewP_any oy ny cy Y _ HLY.out hcy hmy (HY.out.later B21)).mono ?_
        rw [← HB.out]
        rintro e w22 ⟨v22, rfl, o22, b22⟩
        have B22 := below_later B21 b22
        have OBw := Lib.hid (OBx.out.later b22)
        have O22 := Lib.hid o22.seg
        clear b22 o22 OBx
        go_wp2_with fail
        refine (equalP_seg _ _ B B _ OBw.out O22.out).mono ?_
        rw [show decide (B = B) = true from by simp]
        rintro e w23 ⟨rfl, g23⟩
        have B23 := below_later B22 g23.below
        clear g23
        go_wp2
        go_ret
        exact ⟨rfl, B23⟩
  · have hck := ck2_no hok
    have e1 := cmb_no hok true true true
    have e2 := cmb_no hok true false false
    have e3 := cmb_no hok false true false
    rw [e1, e2, e3, hck]
    have hdd : (decide (okP A) = true ∧ decide (okP B) = false) ∨ decide (okP A) = false := by
      by_cases h1 : okP A
      · exact .inl ⟨by simpa using h1, by simpa using fun h2 => hok ⟨h1, h2⟩⟩
      · exact .inr (by simpa using h1)
    have BZ : Below w.heap.size w w6 := B3.trans (B36.mono B3.size)
    have HDD := Lib.hid hdd
    clear hok hck e1 e2 e3 hdd OU6 OM6 ON
    rcases HDD.out with ⟨h1, h2⟩ | h1
    · have H1 := Lib.hid h1
      have H2 := Lib.hid h2
      clear h1 h2
      go_wp2_with fail
      refine (right_any _ A _ OA6.out).mono ?_
      rw [H1.out]
      rintro e w7 ⟨rfl, g7⟩
      go_wp2_with fail
      refine (right_any _ B _ (OB6.out.later g7.below)).mono ?_
      rw [H2.out]
      rintro e w8 ⟨rfl, g8⟩
      go_wp2
      go_ret
      exact ⟨rfl, below_later (below_later BZ g7.below) g8.below⟩
    · have H1 := Lib.hid h1
      clear h1
      go_wp2_with fail
      refine (right_any _ A _ OA6.out).mono ?_
      rw [H1.out]
      rintro e w7 ⟨rfl, g7⟩
      go_wp2
      go_ret
      exact ⟨rfl, below_later BZ g7.below⟩
end Go.Proofs.Yteipihoebnmagaa
