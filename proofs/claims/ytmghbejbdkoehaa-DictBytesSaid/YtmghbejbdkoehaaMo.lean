import Derived.Test.YtmghbejbdkoehaaMj
import Derived.Deep.RegionHeld3
import Derived.Test.YtmghbejbdkoehaaMh
import Derived.Test.YtmghbejbdkoehaaMa
import Derived.Lib.AppendZeros
/- CodecSums: the law's walk. -/
namespace Go.Proofs.Ytmghbejbdkoehaa
open Go.RowKit Go.Proofs.Kit Go.Shelf

theorem ArgI.of_seg {k : IntKind} {w : World} {o : Option Addr} {n c : Nat} {l : List Int} (h : Seg k w (.slice o n c) l) : ArgI k w o c l ∧ l.length = n := by
  rcases h.2 with ⟨h1, rfl⟩ | ⟨b, off, cap, h1, h2, h3, h4, h5⟩
  · injection h1 with e1 e2 e3
    exact ⟨.inl ⟨e1, rfl, e3⟩, by simp [e2]⟩
  · injection h1 with e1 e2 e3
    exact ⟨.inr ⟨_, e1, fun i hi => by rw [Addr.add_lit]; exact h5 i hi⟩, e2.symm⟩

end Go.Proofs.Ytmghbejbdkoehaa


/- CodecOne: the law's walk. -/
namespace Go.Proofs.Ytmghbejbdkoehaa
open Go.RowKit Go.Proofs.Kit Go.Shelf

/-- Between two calls of the law: what lay there lies there, and the bytes are there. -/
def XS (w : World) (g m c : Nat) (b : List Int) (w' : World) : Prop := Below w.heap.size w w' ∧ Seg .u8 w' (.slice (some ⟨g, 0, none⟩) m c) b
section
variable {w w' w'' : World} {g m c : Nat} {b : List Int}
theorem XS.drew (h : XS w g m c b w') : XS w g m c b w'.drew := ⟨h.1.drew, h.2.drew⟩
theorem XS.drewN (h : XS w g m c b w') (n : Nat) : XS w g m c b (w'.drewN n) := ⟨below_drN h.1 n, h.2.later (below_drN (Below.refl _ _) n)⟩
theorem XS.sub {p q : Nat} {L : List Int} (h : XS w g m c b w') (hm : m = b.length) (hp : p ≤ q) (hq : q ≤ m) (hL : L = (b.drop p).take (q - p)) : Seg .u8 w' (.slice (some ⟨g, p, none⟩) (q - p) (c - p)) L := by
  have h2 := h.2
  subst hm hL
  simpa using h2.sub hp hq
theorem XS.later (h : XS w g m c b w') (hb : Below w'.heap.size w' w'') : XS w g m c b w'' := ⟨h.1.trans (hb.mono h.1.size), h.2.later hb⟩
end
theorem equalb_same (v1 v2 : Value) (l : List Int) (w : World) (h1 : Seg .u8 w v1 l) (h2 : Seg .u8 w v2 l) :
    Calls Try.prog 32 #[v1, v2] w fun e w' => e = .returned (.bool true) ∧ Below w.heap.size w w' :=
  (equalb_seg v1 v2 l l w h1 h2).mono fun e w' ⟨he, hb⟩ => ⟨by simpa using he, hb⟩

theorem rdNum_ne : ∀ (l : List Int) (m : Nat) (acc c : Int), rdNum m acc l = .error c → (c == 0) = false
  | [], m, acc, c, h => by simp [rdNum] at h; subst h; rfl
  | x :: t, m, acc, c, h => by
    simp only [rdNum] at h
    split at h
    · split at h
      · injection h with h; subst h; rfl
      · cases h
    · split at h
      · injection h with h; subst h; rfl
      · exact rdNum_ne t _ _ c h
theorem rdN_ne {bs : List Int} {p : Nat} {c : Int} (h : rdN bs p = .error c) : (c == 0) = false := by
  unfold rdN at h
  cases hr : rdNum 0 0 (bs.drop p) with
  | error d => rw [hr] at h; simp only [Except.map] at h; injection h with h; subst h; exact rdNum_ne _ _ _ _ hr
  | ok y => rw [hr] at h; cases h
theorem rdCut_ne {bs : List Int} {p m : Nat} {c : Int} (h : rdCut bs p m = .error c) : (c == 0) = false := by
  unfold rdCut at h
  split at h
  · injection h with h; subst h; rfl
  · cases h
theorem rdCounted_ne {limit : Nat} {bs : List Int} {p : Nat} {c : Int} (h : rdCounted limit bs p = .error c) : (c == 0) = false := by
  cases hr : rdN bs p with
  | error d => rw [rdN_err hr] at h; injection h with h; subst h; exact rdN_ne hr
  | ok y =>
    obtain ⟨n, q⟩ := y
    rw [rdN_ok hr] at h
    split at h
    · injection h with h; subst h; rfl
    · exact rdCut_ne h
theorem rdFrame_ne {bs : List Int} {p : Nat} {c : Int} (h : rdFrame bs p = .error c) : (c == 0) = false := by
  cases h1 : rdCounted 1048576 bs p with
  | error d => rw [rdFrame_e1 h1] at h; injection h with h; subst h; exact rdCounted_ne h1
  | ok y =>
    obtain ⟨l, q⟩ := y
    cases h2 : rdSum bs q with
    | error d =>
      rw [rdFrame_e2 h1 h2] at h; injection h with h; subst h
      unfold rdSum at h2
      cases h3 : rdCut bs q 4 with
      | error e => rw [h3] at h2; simp only [Except.map] at h2; injection h2 with h2; subst h2; exact rdCut_ne h3
      | ok z => rw [h3] at h2; cases h2
    | ok z =>
      obtain ⟨s, q2⟩ := z
      rw [rdFrame_ok h1 h2] at h
      split at h
      · cases h
      · injection h with h; subst h; rfl
theorem rdRows_ne : ∀ (k : Nat) (bs acc : List Int) (p : Nat) (c : Int), rdRows k bs p acc = .error c → (c == 0) = false
  | 0, bs, acc, p, c, h => by cases h
  | k + 1, bs, acc, p, c, h => by
    cases hr : rdN bs p with
    | error d => rw [rdRows_e hr] at h; injection h with h; subst h; exact rdN_ne hr
    | ok y => obtain ⟨x, q⟩ := y; rw [rdRows_ok hr] at h; exact rdRows_ne k _ _ _ c h
theorem rdRow_ne {bs : List Int} {p : Nat} {c : Int} (h : rdRow bs p = .error c) : (c == 0) = false := by
  cases hr : rdN bs p with
  | error d => rw [rdRow_e hr] at h; injection h with h; subst h; exact rdN_ne hr
  | ok y =>
    obtain ⟨n, q⟩ := y
    rw [rdRow_ok hr] at h
    split at h
    · injection h with h; subst h; rfl
    · exact rdRows_ne _ _ _ _ c h
theorem strB_ofB {l : List Int} (h : Byt l) : strB (ofB l) = l := by
  unfold strB ofB
  simp only [List.map_map]
  conv => rhs; rw [← List.map_id l]
  apply List.map_congr_left
  intro x hx
  have := h x hx
  simp
  omega
theorem ofB_size (l : List Int) : (ofB l).size = l.length := by
  show ((l.map _).toArray).size = _
  simp

end Go.Proofs.Ytmghbejbdkoehaa


/- The layer does something: wakes. -/
namespace Go.Proofs.Ytmghbejbdkoehaa
open Go.RowKit Go.Proofs.Kit Go.Shelf

theorem Read.ok {α : Type} {w : World} {R : Except Int (α × Nat)} {Z : Value} {G : α → Value → World → Prop} {e : Ending} {w' : World} {x : α} {q : Nat} (h : Read w R Z G e w') (hR : R = .ok (x, q)) :
    ∃ v, e = .returned (.tuple #[v, .int .i64 ((q : Nat) : Int), .int .i64 0]) ∧ G x v w' ∧ Below w.heap.size w w' := by
  obtain ⟨hb, ⟨x', q', v, hr, he, hG⟩ | ⟨c, hr, he⟩⟩ := h
  · rw [hR] at hr
    injection hr with hr; injection hr with h1 h2
    subst h1 h2
    exact ⟨v, he, hG, hb⟩
  · rw [hR] at hr; cases hr
theorem Read.err {α : Type} {w : World} {R : Except Int (α × Nat)} {Z : Value} {G : α → Value → World → Prop} {e : Ending} {w' : World} {c : Int} (h : Read w R Z G e w') (hR : R = .error c) :
    e = .returned (.tuple #[Z, .int .i64 0, .int .i64 c]) ∧ Below w.heap.size w w' := by
  obtain ⟨hb, ⟨x', q', v, hr, he, hG⟩ | ⟨c', hr, he⟩⟩ := h
  · rw [hR] at hr; cases hr
  · rw [hR] at hr
    injection hr with h1
    subst h1
    exact ⟨he, hb⟩

theorem wk1 : rdN [7, 172, 2, 9] 1 = .ok (300, 3) := by rfl
theorem wk6 : sept 300 = [172, 2] := by rw [sept_more (by decide), sept_last (by decide)]; rfl
theorem wk2 : bytesRow [1, 300] = [2, 1, 172, 2] := by
  have h1 : sept 1 = [1] := sept_last (by decide)
  have h2 : sept 2 = [2] := sept_last (by decide)
  show sept 2 ++ (sept 1 ++ (sept 300 ++ [])) = _
  rw [h1, h2, wk6]
  rfl
theorem wk3 : rdRow [2, 1, 172, 2] 0 = .ok ([1, 300], 4) := by rfl
theorem wk4 : rdN [128, 0] 0 = .error 121 := by rfl
theorem wk5 : sumB [0] = 32 := by rfl

end Go.Proofs.Ytmghbejbdkoehaa


/- slices.Grow of nil, and slices.Concat of three. -/
namespace Go.Proofs.Ytmghbejbdkoehaa
open Go.RowKit Go.Proofs.Kit Go.Shelf

set_option maxRecDepth 100000 in
set_option maxHeartbeats 1000000 in
theorem grow_zero (w : World) : Calls Try.prog 61 #[.slice none 0 0, .int .i64 0] w fun e w' => e = .returned (.slice none 0 0) ∧ w' = w := by
  go_enter Try.func61, Try.ntmps61
  go_wp2
  go_ret
  exact ⟨rfl, rfl⟩
set_option maxRecDepth 100000 in
set_option maxHeartbeats 1000000 in
theorem grow_some (n : Nat) (hn : 0 < n) (hm : n ≤ 1000000000) (w : World) : Calls Try.prog 61 #[.slice none 0 0, .int .i64 (n : Int)] w fun e w' => (∃ v', e = .returned v' ∧ Owns .u8 5 w.heap.size w' v' []) ∧ Below w.heap.size w w' := by
  obtain ⟨i0, hi, hz0, hz1, hz2⟩ := infob
  have hrz := fun ty => Lib.run_append_nil_zeros (P := Try.prog) w 59 3 ty 5 i0 (.int .u8 0) .i64 .i64 Try.underlying59 Try.underlying3 hi hz0 n hn (by omega) (by omega) (by rw [hz2]; omega)
  have hge := grownCap_ge w n 0 5
  have hle := grownCap_le_maxLen w n 0 5 (by unfold maxLen; omega)
  obtain ⟨G, hG⟩ : ∃ G, G = grownCap w n 0 5 := ⟨_, rfl⟩
  rw [← hG] at hrz hge hle
  have hG63 : G ≤ 9223372036854775807 := by unfold maxLen at hle; omega
  obtain ⟨cs, hcs⟩ : ∃ cs, cs = Builtin.zeroCells (Value.int .u8 0).cells n ++ Builtin.zeroCells (Value.int .u8 0).cells (G - n) := ⟨_, rfl⟩
  have hsz : cs.size = G := by
    rw [hcs, Array.size_append, size_zeroCells, size_zeroCells]
    have : (Value.int .u8 0).cells.size = 1 := rfl
    rw [this]
    omega
  rw [← hcs] at hrz
  have HRZ := Lib.hid hrz
  have HSZ := Lib.hid hsz
  clear hrz hsz hcs hG
  go_enter Try.func61, Try.ntmps61
  go_wp2_with (at_builtin; refine Lib.wpList_append_run _ rfl _ _ _ _ rfl _ _ rfl rfl _ _ (HRZ.out _) ?_)
  go_ret
  refine ⟨⟨_, rfl, ?_⟩, ((Below.refl _ w).drew).alloc (Nat.le_refl _) _⟩
  refine ⟨by simp, .inr ⟨w.heap.size, G, cs, rfl, Nat.le_refl _, heap_alloc_new w.drew _, by simp, by unfold maxLen; omega, by have := HSZ.out; omega, by simp⟩⟩
theorem grow_any (n : Nat) (hm : n ≤ 1000000000) (w : World) : Calls Try.prog 61 #[.slice none 0 0, .int .i64 (n : Int)] w fun e w' => (∃ v', e = .returned v' ∧ Owns .u8 5 w.heap.size w' v' []) ∧ Below w.heap.size w w' := by
  by_cases h : n = 0
  · subst h
    exact (grow_zero w).mono fun e w' ⟨he, hw⟩ => ⟨⟨_, he, Owns.nil _ _ _ _⟩, hw ▸ Below.refl _ _⟩
  · exact grow_some n (by omega) hm w

def pre3 (a b c : Nat) : Nat → Nat
  | 0 => 0
  | 1 => a
  | 2 => a + b
  | _ => a + b + c
def acc3 (a b c : List Int) : Nat → List Int
  | 0 => []
  | 1 => a
  | 2 => a ++ b
  | _ => a ++ b ++ c
set_option maxRecDepth 100000 in
set_option maxHeartbeats 2000000 in
theorem concat3 (sb : Nat) (v1 v2 v3 : Value) (l1 l2 l3 : List Int) (w : World) (hb : Blk w sb #[v1, v2, v3] 59) (s1 : Seg .u8 w v1 l1) (s2 : Seg .u8 w v2 l2) (s3 : Seg .u8 w v3 l3)
    (h1 : l1.length ≤ 1000000) (h2 : l2.length ≤ 1000000) (h3 : l3.length ≤ 1000000) :
    Calls Try.prog 36 #[.slice (some ⟨sb, 0, none⟩) 3 3] w fun e w' => ∃ v', e = .returned v' ∧ Owns .u8 5 w.heap.size w' v' (l1 ++ l2 ++ l3) ∧ Below w.heap.size w w' := by
  obtain ⟨i0, hi, hz0, hz1, hz2⟩ := infob
  have hlt := hb.lt
  have HBK := Lib.hid hb
  obtain ⟨o1, c1, rfl, _, _, _⟩ := s1.shape
  obtain ⟨o2, c2, rfl, _, _, _⟩ := s2.shape
  obtain ⟨o3, c3, rfl, _, _, _⟩ := s3.shape
  obtain ⟨n1, hn1⟩ : ∃ n, n = l1.length := ⟨_, rfl⟩
  obtain ⟨n2, hn2⟩ : ∃ n, n = l2.length := ⟨_, rfl⟩
  obtain ⟨n3, hn3⟩ : ∃ n, n = l3.length := ⟨_, rfl⟩
  rw [← hn1] at h1 s1 HBK
  rw [← hn2] at h2 s2 HBK
  rw [← hn3] at h3 s3 HBK
  have S1 := Lib.hid s1
  have S2 := Lib.hid s2
  have S3 := Lib.hid s3
  have N1 := Lib.hid hn1
  have N2 := Lib.hid hn2
  have N3 := Lib.hid hn3
  clear s1 s2 s3 hn1 hn2 hn3 hb
  have d0 := HBK.out.cell 0
  have d1 := HBK.out.cell 1
  have d2 := HBK.out.cell 2
  simp only [List.getElem?_toArray, List.getElem?_cons_zero, List.getElem?_cons_succ] at d0 d1 d2
  go_enter Try.func36, Try.ntmps36
  go_wp2
  go_loop [3, 5, 11] (fun s _ i => ∃ k : Nat, k ≤ 3 ∧ i = .int .i64 (k : Int) ∧ s = .int .i64 ((pre3 n1 n2 n3 k : Nat) : Int)) (fun _ _ i => 3 - (intOf i).toNat)
  case atStart => exact ⟨0, by omega, rfl, rfl⟩
  case round =>
    obtain ⟨k, hk, rfl, rfl⟩ := hrel
    have hk4 : k = 0 ∨ k = 1 ∨ k = 2 ∨ k = 3 := by omega
    rcases hk4 with rfl | rfl | rfl | rfl
    · simp only [pre3]
      go_wp2
      go_round
      case rel => exact ⟨1, by omega, rfl, by simp⟩
      case measure => simp [intOf]
    · simp only [pre3]
      go_wp2
      go_round
      case rel => exact ⟨2, by omega, rfl, by simp⟩
      case measure => simp [intOf]
    · simp only [pre3]
      go_wp2
      go_round
      case rel => exact ⟨3, by omega, rfl, by simp⟩
      case measure => simp [intOf]
    · simp only [pre3]
      go_wp2_with fail
      refine (grow_any (n1 + n2 + n3) (by omega) _).mono ?_
      rintro e w1 ⟨⟨v', rfl, ho⟩, hb1⟩
      clear d0 d1 d2
      go_wp2
      go_loopw [6, 8, 27] (fun s _ i wr => ∃ k : Nat, k ≤ 3 ∧ i = .int .i64 (k : Int) ∧ Owns .u8 5 w.heap.size wr s (acc3 l1 l2 l3 k) ∧ Below w.heap.size w wr) (fun _ _ i _ => 3 - (intOf i).toNat)
      case atStart => exact ⟨0, by omega, rfl, ho, hb1⟩
      case round =>
        obtain ⟨k, hk, rfl, hO, hB⟩ := hrel
        have hbk := HBK.out.below hB hlt
        have d0 := hbk.cell 0
        have d1 := hbk.cell 1
        have d2 := hbk.cell 2
        simp only [List.getElem?_toArray, List.getElem?_cons_zero, List.getElem?_cons_succ] at d0 d1 d2
        have T1 := S1.out.later hB
        have T2 := S2.out.later hB
        have T3 := S3.out.later hB
        have hk4 : k = 0 ∨ k = 1 ∨ k = 2 ∨ k = 3 := by omega
        rcases hk4 with rfl | rfl | rfl | rfl
        · go_wp2_with (at_builtin; refine wpList_append_seg rfl _ _ 59 rfl .u8 w.heap.size 5 i0 (.int .u8 0) 1 Try.underlying59 hi hz0 hz1 hz2 rfl _ _ rfl hO _ l1 rfl T1 ?qa0 ?qb0 ?qc0 ?_)
          case qa0 => have := N1.out; have := N2.out; have := N3.out; simp [acc3]; try omega
          case qb0 => have := N1.out; have := N2.out; have := N3.out; simp [acc3]; try omega
          case qc0 => exact hB.size
          intro v2 w2 hO2 hb2
          go_wp2
          go_roundw
          case rel => exact ⟨1, by omega, rfl, by simpa [acc3] using hO2, hB.trans hb2⟩
          case measure => simp [intOf]
        · go_wp2_with (at_builtin; refine wpList_append_seg rfl _ _ 59 rfl .u8 w.heap.size 5 i0 (.int .u8 0) 1 Try.underlying59 hi hz0 hz1 hz2 rfl _ _ rfl hO _ l2 rfl T2 ?qa1 ?qb1 ?qc1 ?_)
          case qa1 => have := N1.out; have := N2.out; have := N3.out; simp [acc3]; try omega
          case qb1 => have := N1.out; have := N2.out; have := N3.out; simp [acc3]; try omega
          case qc1 => exact hB.size
          intro v2 w2 hO2 hb2
          go_wp2
          go_roundw
          case rel => exact ⟨2, by omega, rfl, by simpa [acc3] using hO2, hB.trans hb2⟩
          case measure => simp [intOf]
        · go_wp2_with (at_builtin; refine wpList_append_seg rfl _ _ 59 rfl .u8 w.heap.size 5 i0 (.int .u8 0) 1 Try.underlying59 hi hz0 hz1 hz2 rfl _ _ rfl hO _ l3 rfl T3 ?qa2 ?qb2 ?qc2 ?_)
          case qa2 => have := N1.out; have := N2.out; have := N3.out; simp [acc3]; try omega
          case qb2 => have := N1.out; have := N2.out; have := N3.out; simp [acc3]; try omega
          case qc2 => exact hB.size
          intro v2 w2 hO2 hb2
          go_wp2
          go_roundw
          case rel => exact ⟨3, by omega, rfl, by simpa [acc3] using hO2, hB.trans hb2⟩
          case measure => simp [intOf]
        · go_wp2
          go_ret
          exact ⟨_, rfl, hO, hB⟩
end Go.Proofs.Ytmghbejbdkoehaa

