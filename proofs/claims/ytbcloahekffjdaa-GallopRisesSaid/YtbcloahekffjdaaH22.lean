/- Which pivot: some place within. -/
import Derived.Test.YtbcloahekffjdaaH15
import Derived.Deep.CutBlock
namespace Go.Proofs.Kit
open Go.RowKit
/-- A row that is sorted, and a number beside it. -/
structure SX (ti tn : TypeId) (B g n cap sb : Nat) (w0 : World) (d : Array Int) (w : World) : Prop where
  sr : SR ti B g n cap w0 d w
  kb : ∃ s : Int, Blk w sb #[.int .i64 s] tn
  new : w0.heap.size ≤ sb
section
variable {ti tn : TypeId} {B g n cap sb : Nat} {w0 w : World} {d : Array Int}
theorem SX.set {s : Int} (h : SR ti B g n cap w0 d w) (hb : Blk w sb #[.int .i64 s] tn) (hn : w0.heap.size ≤ sb) (ht : ti ≠ tn) (m : Nat) (y : Int) : SX ti tn B g n cap sb w0 d ((w.drewN m).setCell ⟨sb, 0, none⟩ (.int .i64 y)) := by
  have hd := h.drewN m
  refine ⟨⟨h.len, hd.ow.same fun g' hg' => Below.heap_setCell _ _ _ _ (by rintro rfl; exact h.ow.ne_blk hb ht hg'), hd.but.set _ _ (fun hl => by simp at hl; omega)⟩, ⟨y, ?_⟩, hn⟩
  have : Blk (w.drewN m) sb #[.int .i64 s] tn := hb
  simpa using this.set 0 (.int .i64 y)
theorem SX.drewN (h : SX ti tn B g n cap sb w0 d w) (m : Nat) : SX ti tn B g n cap sb w0 d (w.drewN m) := ⟨h.sr.drewN m, h.kb, h.new⟩
end
end Go.Proofs.Kit
namespace Go.Proofs.Ytbcloahekffjdaa
open Go.RowKit Go.Proofs.Kit
abbrev SXt (B g n cap sb : Nat) (w0 : World) (d : Array Int) (w : World) : Prop := SX 27 3 B g n cap sb w0 d w
/-- Two places, in one order or the other. -/
def O2P (B g n cap sb : Nat) (w0 : World) (d : Array Int) (x y : Int) (e : Ending) (w' : World) : Prop :=
  ∃ u v : Int, e = .returned (.tuple #[.int .i64 u, .int .i64 v]) ∧ ((u = x ∧ v = y) ∨ (u = y ∧ v = x)) ∧ Hid (SXt B g n cap sb w0 d w')
set_option maxHeartbeats 2000000 in
theorem ord2_any (B g n cap sb : Nat) (d : Array Int) (w0 w : World) (h : SXt B g n cap sb w0 d w) (x y : Int) (hx : 0 ≤ x ∧ x < (n : Int)) (hy : 0 ≤ y ∧ y < (n : Int)) :
    Calls Try.prog 63 #[.slice (some ⟨g, 0, none⟩) n cap, .int .i64 x, .int .i64 y, .pointer (some ⟨sb, 0, none⟩)] w (O2P B g n cap sb w0 d x y) := by
  obtain ⟨i, rfl⟩ := Int.eq_ofNat_of_zero_le hx.1
  obtain ⟨j, rfl⟩ := Int.eq_ofNat_of_zero_le hy.1
  have hi : i < n := by omega
  have hj : j < n := by omega
  obtain ⟨s, hs⟩ := h.kb
  have H := Lib.hid h
  have di := h.sr.cell hi
  have dj := h.sr.cell hj
  have ds : w.cell? ⟨sb, 0, none⟩ = some (.int .i64 s) := hs.cell 0
  have fs : w.frozen? ⟨sb, 0, none⟩ = false := hs.frozen 0
  have hl := hs.lt
  have HS := Lib.hid hs
  obtain ⟨u, hu⟩ : ∃ u, u = d[i]! := ⟨_, rfl⟩
  obtain ⟨v, hv⟩ : ∃ v, v = d[j]! := ⟨_, rfl⟩
  rw [← hu] at di
  rw [← hv] at dj
  clear h hs hu hv hx hy
  by_cases hc : v < u
  · have hd : decide (v < u) = true := by rw [decide_eq_true_eq]; exact hc
    go_enter Try.func63, Try.ntmps63
    go_wp2
    go_quiet (first | (go_at_call 53; refine Calls.quiet_of_same (less_any _ _ _)))
    go_wp2
    exact bodyPost_ret (v := .tuple #[.int .i64 (j : Int), .int .i64 (i : Int)]) (by simp [results, Try.results63, go_sem]) rfl ⟨_, _, rfl, .inr ⟨rfl, rfl⟩, Lib.hid (SX.set H.out.sr HS.out H.out.new (by decide) _ _)⟩
  · have hd : decide (v < u) = false := by rw [decide_eq_false_iff_not]; exact hc
    go_enter Try.func63, Try.ntmps63
    go_wp2
    go_quiet (first | (go_at_call 53; refine Calls.quiet_of_same (less_any _ _ _)))
    go_wp2
    exact bodyPost_ret (v := .tuple #[.int .i64 (i : Int), .int .i64 (j : Int)]) (by simp [results, Try.results63, go_sem]) rfl ⟨_, _, rfl, .inl ⟨rfl, rfl⟩, Lib.hid (H.out.drewN _)⟩
/-- One of three places. -/
def M3P (B g n cap sb : Nat) (w0 : World) (d : Array Int) (x y z : Int) (e : Ending) (w' : World) : Prop :=
  ∃ m : Int, e = .returned (.int .i64 m) ∧ (m = x ∨ m = y ∨ m = z) ∧ Hid (SXt B g n cap sb w0 d w')
set_option maxHeartbeats 2000000 in
theorem med_any (B g n cap sb : Nat) (d : Array Int) (w0 w : World) (h : SXt B g n cap sb w0 d w) (x y z : Int) (hx : 0 ≤ x ∧ x < (n : Int)) (hy : 0 ≤ y ∧ y < (n : Int)) (hz : 0 ≤ z ∧ z < (n : Int)) :
    Calls Try.prog 62 #[.slice (some ⟨g, 0, none⟩) n cap, .int .i64 x, .int .i64 y, .int .i64 z, .pointer (some ⟨sb, 0, none⟩)] w (M3P B g n cap sb w0 d x y z) := by
  have H := Lib.hid h
  clear h
  go_enter Try.func62, Try.ntmps62
  go_wp2_with fail
  refine (ord2_any B g n cap sb d w0 _ H.out x y hx hy).mono ?_
  rintro e w1 ⟨u1, v1, rfl, h1, H1⟩
  have hu1 : 0 ≤ u1 ∧ u1 < (n : Int) := by omega
  have hv1 : 0 ≤ v1 ∧ v1 < (n : Int) := by omega
  have G1 := Lib.hid h1
  clear h1
  go_wp2_with fail
  refine (ord2_any B g n cap sb d w0 _ H1.out v1 z hv1 hz).mono ?_
  rintro e w2 ⟨u2, v2, rfl, h2, H2⟩
  have hu2 : 0 ≤ u2 ∧ u2 < (n : Int) := by omega
  have G2 := Lib.hid h2
  clear h2
  go_wp2_with fail
  refine (ord2_any B g n cap sb d w0 _ H2.out u1 u2 hu1 hu2).mono ?_
  rintro e w3 ⟨u3, v3, rfl, h3, H3⟩
  have G3 := Lib.hid h3
  clear h3
  go_wp2
  exact bodyPost_ret (v := .int .i64 v3) (by simp [results, Try.results62, go_sem]) rfl ⟨_, rfl, by have := G1.out; have := G2.out; have := G3.out; omega, H3⟩
set_option maxHeartbeats 2000000 in
theorem medA_any (B g n cap sb : Nat) (d : Array Int) (w0 w : World) (h : SXt B g n cap sb w0 d w) (x : Int) (hx : 1 ≤ x ∧ x + 1 < (n : Int)) (hn : n ≤ 1000000) :
    Calls Try.prog 61 #[.slice (some ⟨g, 0, none⟩) n cap, .int .i64 x, .pointer (some ⟨sb, 0, none⟩)] w (M3P B g n cap sb w0 d (x - 1) x (x + 1)) := by
  have H := Lib.hid h
  clear h
  go_enter Try.func61, Try.ntmps61
  go_wp2_with fail
  refine (med_any B g n cap sb d w0 _ H.out (x - 1) x (x + 1) (by omega) (by omega) (by omega)).mono ?_
  rintro e w1 ⟨u1, rfl, h1, H1⟩
  have G1 := Lib.hid h1
  clear h1
  go_wp2
  exact bodyPost_ret (v := .int .i64 u1) (by simp [results, Try.results61, go_sem]) rfl ⟨_, rfl, G1.out, H1⟩
/-- A place within, and a hint. -/
def CpP (B g n cap a b : Nat) (w0 : World) (d : Array Int) (e : Ending) (w' : World) : Prop :=
  ∃ (m : Nat) (t : Int), e = .returned (.tuple #[.int .i64 (m : Int), .int .i64 t]) ∧ a ≤ m ∧ m < b ∧ (t = 0 ∨ t = 1 ∨ t = 2) ∧ Hid (SRt B g n cap w0 d w')
set_option maxHeartbeats 4000000 in
theorem pivot_any (B g n cap a b : Nat) (d : Array Int) (w0 w : World) (h : SRt B g n cap w0 d w) (hab : a + 12 < b) (hb : b ≤ n) (hn : n ≤ 1000000) :
    Calls Try.prog 50 #[.slice (some ⟨g, 0, none⟩) n cap, .int .i64 a, .int .i64 b] w (CpP B g n cap a b w0 d) := by
  obtain ⟨l, hl⟩ : ∃ l, l = b - a := ⟨_, rfl⟩
  have hal : (b : Int) - (a : Int) = (l : Int) := by omega
  have hq : (l : Int).tdiv 4 = ((l / 4 : Nat) : Int) := by rw [Int.tdiv_eq_ediv_of_nonneg (by omega)]; omega
  obtain ⟨q, hq'⟩ : ∃ q, q = l / 4 := ⟨_, rfl⟩
  rw [← hq'] at hq
  have hq1 : 3 ≤ q := by omega
  have hq2 : 4 * q ≤ l := by omega
  have hlb : a + l = b := by omega
  have hq3 : 13 ≤ l := by omega
  have hsx : SXt B g n cap w.heap.size w0 d (w.alloc (.cells #[.int .i64 0] 3)) := ⟨h.alloc _, ⟨0, Blk.new _ _ _⟩, h.but.size⟩
  have H := Lib.hid hsx
  clear h hsx hl hq'
  have h8 : decide (8 ≤ (l : Int)) = true := by rw [decide_eq_true_eq]; omega
  go_enter Try.func50, Try.ntmps50
  by_cases h50 : 50 ≤ l
  · have h51 : decide (50 ≤ (l : Int)) = true := by rw [decide_eq_true_eq]; omega
    go_wp2_with fail
    refine (medA_any B g n cap w.heap.size d w0 _ H.out ((a : Int) + (q : Int)) (by omega) hn).mono ?_
    rintro e w1 ⟨m1, rfl, h1, H1⟩
    have b1 : (a : Int) ≤ m1 ∧ m1 < (b : Int) := by omega
    clear h1
    go_wp2_with fail
    refine (medA_any B g n cap w.heap.size d w0 _ H1.out ((a : Int) + (q : Int) * 2) (by omega) hn).mono ?_
    rintro e w2 ⟨m2, rfl, h2, H2⟩
    have b2 : (a : Int) ≤ m2 ∧ m2 < (b : Int) := by omega
    clear h2
    go_wp2_with fail
    refine (medA_any B g n cap w.heap.size d w0 _ H2.out ((a : Int) + (q : Int) * 3) (by omega) hn).mono ?_
    rintro e w3 ⟨m3, rfl, h3, H3⟩
    have b3 : (a : Int) ≤ m3 ∧ m3 < (b : Int) := by omega
    clear h3
    go_wp2_with fail
    refine (med_any B g n cap w.heap.size d w0 _ H3.out m1 m2 m3 (by omega) (by omega) (by omega)).mono ?_
    rintro e w4 ⟨m4, rfl, h4, H4⟩
    obtain ⟨m, rfl⟩ := Int.eq_ofNat_of_zero_le (show 0 ≤ m4 by omega)
    have hma : a ≤ m := by omega
    have hmb : m < b := by omega
    obtain ⟨s, hs⟩ := H4.out.kb
    have ds : w4.cell? ⟨w.heap.size, 0, none⟩ = some (.int .i64 s) := hs.cell 0
    clear h4 hs
    by_cases s0 : s = 0
    · subst s0
      go_wp2
      exact bodyPost_ret (v := .tuple #[.int .i64 (m : Int), .int .i64 1]) (by simp [results, Try.results50, go_sem]) rfl ⟨m, 1, rfl, hma, hmb, by omega, Lib.hid H4.out.sr⟩
    · have s0' : (s == 0) = false := by rw [beq_eq_false_iff_ne]; exact s0
      by_cases s1 : s = 12
      · subst s1
        go_wp2
        exact bodyPost_ret (v := .tuple #[.int .i64 (m : Int), .int .i64 2]) (by simp [results, Try.results50, go_sem]) rfl ⟨m, 2, rfl, hma, hmb, by omega, Lib.hid H4.out.sr⟩
      · have s1' : (s == 12) = false := by rw [beq_eq_false_iff_ne]; exact s1
        go_wp2
        exact bodyPost_ret (v := .tuple #[.int .i64 (m : Int), .int .i64 0]) (by simp [results, Try.results50, go_sem]) rfl ⟨m, 0, rfl, hma, hmb, by omega, Lib.hid H4.out.sr⟩
  · have h51 : decide (50 ≤ (l : Int)) = false := by rw [decide_eq_false_iff_not]; omega
    go_wp2_with fail
    refine (med_any B g n cap w.heap.size d w0 _ H.out ((a : Int) + (q : Int)) ((a : Int) + (q : Int) * 2) ((a : Int) + (q : Int) * 3) (by omega) (by omega) (by omega)).mono ?_
    rintro e w4 ⟨m4, rfl, h4, H4⟩
    obtain ⟨m, rfl⟩ := Int.eq_ofNat_of_zero_le (show 0 ≤ m4 by omega)
    have hma : a ≤ m := by omega
    have hmb : m < b := by omega
    obtain ⟨s, hs⟩ := H4.out.kb
    have ds : w4.cell? ⟨w.heap.size, 0, none⟩ = some (.int .i64 s) := hs.cell 0
    clear h4 hs
    by_cases s0 : s = 0
    · subst s0
      go_wp2
      exact bodyPost_ret (v := .tuple #[.int .i64 (m : Int), .int .i64 1]) (by simp [results, Try.results50, go_sem]) rfl ⟨m, 1, rfl, hma, hmb, by omega, Lib.hid H4.out.sr⟩
    · have s0' : (s == 0) = false := by rw [beq_eq_false_iff_ne]; exact s0
      by_cases s1 : s = 12
      · subst s1
        go_wp2
        exact bodyPost_ret (v := .tuple #[.int .i64 (m : Int), .int .i64 2]) (by simp [results, Try.results50, go_sem]) rfl ⟨m, 2, rfl, hma, hmb, by omega, Lib.hid H4.out.sr⟩
      · have s1' : (s == 12) = false := by rw [beq_eq_false_iff_ne]; exact s1
        go_wp2
        exact bodyPost_ret (v := .tuple #[.int .i64 (m : Int), .int .i64 0]) (by simp [results, Try.results50, go_sem]) rfl ⟨m, 0, rfl, hma, hmb, by omega, Lib.hid H4.out.sr⟩
end Go.Proofs.Ytbcloahekffjdaa
