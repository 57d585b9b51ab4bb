/- CodecOne: the law's walk. -/
import Derived.Test.YtdjcdhkdmgkdfaaL2
import Derived.Deep.RegionHeld3
namespace Go.Proofs.Ytdjcdhkdmgkdfaa
open Go.RowKit Go.Proofs.Kit Go.Shelf

/-- Between two calls of the law: what lay there lies there, and the bytes are there. -/
def XS (w : World) (g m c : Nat) (b : List Int) (w' : World) : Prop := Below w.heap.size w w' ∧ Seg .u8 w' (.slice (some ⟨g, 0, none⟩) m c) b
section
variable {w w' w'' : World} {g m c : Nat} {b : List Int}
theorem XS.drew (h : XS w g m c b w') : XS w g m c b w'.drew := ⟨h.1.drew, h.2.drew⟩
theorem XS.drewN (h : XS w g m c b w') (n : Nat) : XS w g m c b (w'.drewN n) := ⟨below_drN h.1 n, h.2.later (below_drN (Below.refl _ _) n)⟩
theorem XS.sub {p q : Nat} {L : List Int} (h : XS w g m c b w') (hm : m = b.length) (hp : p ≤ q) (hq : q ≤ m) (hL : L = (b.drop p).take (q - p)) : Seg .u8 w' (.slice (some ⟨g, p, none⟩) (q - p) (c - p)) L := by
  have h2 := h.2
  subst hm hL
  simpa using h2.sub hp hq
theorem XS.later (h : XS w g m c b w') (hb : Below w'.heap.size w' w'') : XS w g m c b w'' := ⟨h.1.trans (hb.mono h.1.size), h.2.later hb⟩
end
theorem equalb_same (v1 v2 : Value) (l : List Int) (w : World) (h1 : Seg .u8 w v1 l) (h2 : Seg .u8 w v2 l) :
    Calls Try.prog 9 #[v1, v2] w fun e w' => e = .returned (.bool true) ∧ Below w.heap.size w w' :=
  (equalb_seg v1 v2 l l w h1 h2).mono fun e w' ⟨he, hb⟩ => ⟨by simpa using he, hb⟩

theorem rdNum_ne : ∀ (l : List Int) (m : Nat) (acc c : Int), rdNum m acc l = .error c → (c == 0) = false
  | [], m, acc, c, h => by simp [rdNum] at h; subst h; rfl
  | x :: t, m, acc, c, h => by
    simp only [rdNum] at h
    split at h
    · split at h
      · injection h with h; subst h; rfl
      · cases h
    · split at h
      · injection h with h; subst h; rfl
      · exact rdNum_ne t _ _ c h
theorem rdN_ne {bs : List Int} {p : Nat} {c : Int} (h : rdN bs p = .error c) : (c == 0) = false := by
  unfold rdN at h
  cases hr : rdNum 0 0 (bs.drop p) with
  | error d => rw [hr] at h; simp only [Except.map] at h; injection h with h; subst h; exact rdNum_ne _ _ _ _ hr
  | ok y => rw [hr] at h; cases h
theorem rdCut_ne {bs : List Int} {p m : Nat} {c : Int} (h : rdCut bs p m = .error c) : (c == 0) = false := by
  unfold rdCut at h
  split at h
  · injection h with h; subst h; rfl
  · cases h
theorem rdCounted_ne {limit : Nat} {bs : List Int} {p : Nat} {c : Int} (h : rdCounted limit bs p = .error c) : (c == 0) = false := by
  cases hr : rdN bs p with
  | error d => rw [rdN_err hr] at h; injection h with h; subst h; exact rdN_ne hr
  | ok y =>
    obtain ⟨n, q⟩ := y
    rw [rdN_ok hr] at h
    split at h
    · injection h with h; subst h; rfl
    · exact rdCut_ne h
theorem rdFrame_ne {bs : List Int} {p : Nat} {c : Int} (h : rdFrame bs p = .error c) : (c == 0) = false := by
  cases h1 : rdCounted 1048576 bs p with
  | error d => rw [rdFrame_e1 h1] at h; injection h with h; subst h; exact rdCounted_ne h1
  | ok y =>
    obtain ⟨l, q⟩ := y
    cases h2 : rdSum bs q with
    | error d =>
      rw [rdFrame_e2 h1 h2] at h; injection h with h; subst h
      unfold rdSum at h2
      cases h3 : rdCut bs q 4 with
      | error e => rw [h3] at h2; simp only [Except.map] at h2; injection h2 with h2; subst h2; exact rdCut_ne h3
      | ok z => rw [h3] at h2; cases h2
    | ok z =>
      obtain ⟨s, q2⟩ := z
      rw [rdFrame_ok h1 h2] at h
      split at h
      · cases h
      · injection h with h; subst h; rfl
theorem rdRows_ne : ∀ (k : Nat) (bs acc : List Int) (p : Nat) (c : Int), rdRows k bs p acc = .error c → (c == 0) = false
  | 0, bs, acc, p, c, h => by cases h
  | k + 1, bs, acc, p, c, h => by
    cases hr : rdN bs p with
    | error d => rw [rdRows_e hr] at h; injection h with h; subst h; exact rdN_ne hr
    | ok y => obtain ⟨x, q⟩ := y; rw [rdRows_ok hr] at h; exact rdRows_ne k _ _ _ c h
theorem rdRow_ne {bs : List Int} {p : Nat} {c : Int} (h : rdRow bs p = .error c) : (c == 0) = false := by
  cases hr : rdN bs p with
  | error d => rw [rdRow_e hr] at h; injection h with h; subst h; exact rdN_ne hr
  | ok y =>
    obtain ⟨n, q⟩ := y
    rw [rdRow_ok hr] at h
    split at h
    · injection h with h; subst h; rfl
    · exact rdRows_ne _ _ _ _ c h
theorem strB_ofB {l : List Int} (h : Byt l) : strB (ofB l) = l := by
  unfold strB ofB
  simp only [List.map_map]
  conv => rhs; rw [← List.map_id l]
  apply List.map_congr_left
  intro x hx
  have := h x hx
  simp
  omega
theorem ofB_size (l : List Int) : (ofB l).size = l.length := by
  show ((l.map _).toArray).size = _
  simp

set_option maxHeartbeats 8000000 in
theorem one_in (o : Option Addr) (n c : Nat) (l : List Int) (w : World) (hl : l.length = n) (hc : n ≤ c) (hm : c ≤ 9223372036854775807) (h : ArgI .u8 w o c l) (hby : Byt l) (p : Nat) (hp : p < (l.take 300).length) :
    Calls Try.prog 5 #[.slice o n c, .int .i64 (p : Int)] w fun e w' => e = .returned (.bool true) ∧ Below w.heap.size w w' := by
  have HL := Lib.hid hl
  have HA := Lib.hid h
  clear hl h
  go_enter Try.func5, Try.ntmps5
  go_wp2_with fail
  refine (wakes_true _).mono ?_
  rintro e w1 ⟨rfl, B1⟩
  go_wp2_with fail
  refine (few_any o n c l _ HL.out hc hm (HA.out.later B1)).mono ?_
  rintro e w2 ⟨v2, rfl, o2, b2⟩
  have B2 := B1.trans (b2.mono B1.size)
  have hbb : Byt (l.take 300) := fun x hx => hby x (List.mem_of_mem_take hx)
  obtain ⟨b, hb⟩ : ∃ b, b = l.take 300 := ⟨_, rfl⟩
  have hb300 : b.length ≤ 300 := by rw [hb]; simp; omega
  rw [← hb] at o2 hbb hp
  have HB := Lib.hid hb
  have HBB := Lib.hid hbb
  obtain ⟨g, c2, rfl, hc2, hc2', _, _, _, _, _⟩ := o2.set (i := p) hp 0
  have s2 := o2.seg
  obtain ⟨m, hm'⟩ : ∃ m, m = b.length := ⟨_, rfl⟩
  rw [← hm'] at s2 hb300 hc2 hp ⊢
  have hws : XS w g m c2 b w2 := ⟨B2, s2⟩
  have HM := Lib.hid hm'
  have hlb : b.length ≤ 1000000000 := by omega
  have hpb : p ≤ b.length := by omega
  clear hb hm' s2 o2 b2 hbb hby B1 B2
  have HLB := Lib.hid hlb
  have HPB := Lib.hid hpb
  clear hlb hpb
  go_wp2_with fail
  refine (readn_any p _ _ _ hws.2 HBB.out HLB.out HPB.out).mono ?_
  rintro e u ⟨bb1, hcase⟩
  rcases hcase with hcase | hcase
  case' inl =>
    obtain ⟨x, q, v, hr, rfl, hG⟩ := hcase
    have hws := hws.later bb1
    subst hG
    obtain ⟨N, rfl, hN, hpq, hq, hsept⟩ := rdN_back HBB.out hr
    have HSE := Lib.hid hsept
    clear hsept
    have hqm : q ≤ m := by have := HM.out; omega
    have hple : p ≤ q := by omega
    have hqc : q ≤ c2 := by omega
    have hne : ¬ c2 = p := by omega
    clear hr bb1 hq
    go_wp2_with fail
    go_region_held3 (fun w' => XS w g m c2 b w') (first | exact hws | exact hws.drew) (first | (go_at_call 10; refine (number_any N hN _).mono ?_; rintro e w' ⟨v', rfl, ho, hbl⟩; have hws := hws.drew.later hbl) | (go_at_call 9; refine (equalb_same _ _ _ _ (by first | exact ho.seg | exact ho.drew.seg) (by first | exact hws.sub HM.out hple hqm HSE.out | exact hws.drew.sub HM.out hple hqm HSE.out)).mono ?_; rintro e u ⟨rfl, hbl⟩; have hws := hws.later hbl))
    clear HSE hple hqm hqc hne hpq hN
  case' inr =>
    obtain ⟨cc, hr, rfl⟩ := hcase
    have hws := hws.later bb1
    have z0 := rdN_ne hr
    clear hr bb1
    go_wp2_with fail
    go_quiet (fail)
    have hws := hws.drewN nq
    clear z0
  all_goals
    go_wp2_with fail
    refine (reads_any p _ _ _ hws.2 HBB.out HLB.out HPB.out).mono ?_
    rintro e u ⟨bb1, hcase⟩
    rcases hcase with hcase | hcase
    case' inl =>
      obtain ⟨x, q, v, hr, rfl, hG⟩ := hcase
      have hws := hws.later bb1
      subst hG
      obtain ⟨hx4, hpq, hq, hsept, hbx⟩ := rdCounted_back HBB.out hr
      have hxs : (ofB x).size ≤ 4000 := by rw [ofB_size]; exact hx4
      rw [← strB_ofB hbx] at hsept
      have HSE := Lib.hid hsept
      clear hsept hx4 hbx
      have hqm : q ≤ m := by have := HM.out; omega
      have hple : p ≤ q := by omega
      have hqc : q ≤ c2 := by omega
      have hne : ¬ c2 = p := by omega
      clear hr bb1 hq
      go_wp2_with fail
      refine (text_any (ofB x) hxs _).mono ?_
      rintro e u2 ⟨v', rfl, ho, hbl⟩
      have hws := hws.later hbl
      go_wp2_with fail
      refine (equalb_same _ _ _ _ ho.seg (hws.sub HM.out hple hqm HSE.out)).mono ?_
      rintro e u3 ⟨rfl, hbl2⟩
      have hws := hws.later hbl2
      clear HSE hple hqm hqc hne hpq hxs
    case' inr =>
      obtain ⟨cc, hr, rfl⟩ := hcase
      have hws := hws.later bb1
      have z0 := rdCounted_ne hr
      clear hr bb1
  all_goals
    go_wp2_with fail
    refine (readu_any p _ _ _ hws.2 HBB.out HLB.out HPB.out).mono ?_
    rintro e u ⟨bb1, hcase⟩
    rcases hcase with hcase | hcase
    case' inl =>
      obtain ⟨x, q, v, hr, rfl, hG⟩ := hcase
      have hws := hws.later bb1
      obtain ⟨hxl, hx64, hpq, hq, hsept⟩ := rdRow_back HBB.out hr
      have HSE := Lib.hid hsept
      have HX64 := Lib.hid hx64
      have hxl : x.length ≤ 1000000 := by have := HM.out; omega
      clear hsept hx64
      have hqm : q ≤ m := by have := HM.out; omega
      have hple : p ≤ q := by omega
      have hqc : q ≤ c2 := by omega
      have hne : ¬ c2 = p := by omega
      clear hr bb1 hq
      go_wp2_with fail
      go_region_held3 (fun w' => XS w g m c2 b w') (first | exact hws | exact hws.drew) (first | (go_at_call 15; refine (row_any v x _ (by first | exact hG.seg | exact hG.drew.seg) HX64.out hxl).mono ?_; rintro e w' ⟨v', rfl, ho, hbl⟩; have hws := hws.drew.later hbl) | (go_at_call 9; refine (equalb_same _ _ _ _ (by first | exact ho.seg | exact ho.drew.seg) (by first | exact hws.sub HM.out hple hqm HSE.out | exact hws.drew.sub HM.out hple hqm HSE.out)).mono ?_; rintro e u ⟨rfl, hbl⟩; have hws := hws.later hbl))
      clear HSE hple hqm hqc hne hpq HX64
    case' inr =>
      obtain ⟨cc, hr, rfl⟩ := hcase
      have hws := hws.later bb1
      have z0 := rdRow_ne hr
      clear hr bb1
      go_wp2_with fail
      go_quiet (fail)
      have hws := hws.drewN nq
      clear z0
  all_goals
    go_wp2_with fail
    refine (readb_any p _ _ _ hws.2 HBB.out HLB.out HPB.out).mono ?_
    rintro e u ⟨bb1, hcase⟩
    rcases hcase with hcase | hcase
    case' inl =>
      obtain ⟨x, q, v, hr, rfl, hG⟩ := hcase
      have hws := hws.later bb1
      obtain ⟨hx4, hpq, hq, hsept, hbx⟩ := rdFrame_back HBB.out hr
      have HSE := Lib.hid hsept
      have HBX := Lib.hid hbx
      clear hsept hbx
      have hqm : q ≤ m := by have := HM.out; omega
      have hple : p ≤ q := by omega
      have hqc : q ≤ c2 := by omega
      have hne : ¬ c2 = p := by omega
      clear hr bb1 hq
      go_wp2_with fail
      refine (frame_any v x _ hG.seg HBX.out hx4).mono ?_
      rintro e u2 ⟨v', rfl, ho, hbl⟩
      have hws := hws.later hbl
      go_wp2_with fail
      refine (equalb_same _ _ _ _ ho.seg (hws.sub HM.out hple hqm HSE.out)).mono ?_
      rintro e u3 ⟨rfl, hbl2⟩
      have hws := hws.later hbl2
      clear HSE hple hqm hqc hne hpq HBX hx4
    case' inr =>
      obtain ⟨cc, hr, rfl⟩ := hcase
      have hws := hws.later bb1
      have z0 := rdFrame_ne hr
      clear hr bb1
  all_goals
    go_wp2_with fail
    refine (few_any o n c l _ HL.out hc hm (HA.out.later hws.1)).mono ?_
    rintro e u ⟨v9, rfl, o9, b9⟩
    have hws := hws.later b9
    go_wp2_with fail
    refine (equalb_same _ _ b _ hws.2 (by rw [HB.out]; exact o9.seg)).mono ?_
    rintro e u2 ⟨rfl, b10⟩
    have hws := hws.later b10
    go_wp2_with fail
    go_ret
    exact ⟨rfl, hws.1⟩
end Go.Proofs.Ytdjcdhkdmgkdfaa
