/- run.Compare and run.Check; slices.Equal of pairs and of numbers. -/
import Derived.Test.YtlhigfphfbmbjaaProg
import Derived.Test.YtlhigfphfbmbjaaN1
import Derived.Deep.QuietTactic
import Derived.BigQuiet
import Derived.Shelf.SlSortCmp.QuietGrown
import Derived.Outline
namespace Go.Proofs.Kit
open Go.RowKit
/-- w' is w after some draws, with some blocks behind it. -/
def Gr (w w' : World) : Prop := ∃ q os', w' = Sort.grow (w.drewN q) os'
theorem Gr.refl (w : World) : Gr w w := ⟨0, #[], by rw [Sort.grow_empty]; rfl⟩
theorem Gr.trans {w w1 w2 : World} (h : Gr w w1) (k : Gr w1 w2) : Gr w w2 := by
  obtain ⟨q, os, rfl⟩ := h
  obtain ⟨q', os', rfl⟩ := k
  exact ⟨q + q', os ++ os', by show Sort.grow (Sort.grow ((w.drewN q).drewN q') os) os' = _; rw [Sort.grow_grow, World.drewN_drewN]⟩
theorem Gr.alloc (w : World) (o : Obj) : Gr w (w.alloc o) := ⟨0, #[o], by rw [Sort.alloc_eq_grow]; rfl⟩
theorem Gr.grown (w : World) (n : Nat) (os : Array Obj) : Gr w (Sort.grow (w.drewN n) os) := ⟨n, os, rfl⟩
theorem Gr.drew (w : World) : Gr w w.drew := ⟨1, #[], by rw [Sort.grow_empty]; rfl⟩
theorem Gr.drewN (w : World) (n : Nat) : Gr w (w.drewN n) := ⟨n, #[], by rw [Sort.grow_empty]⟩
theorem Gr.below {w w' : World} (h : Gr w w') : Below w.heap.size w w' := by
  obtain ⟨q, os, rfl⟩ := h
  exact ⟨rfl, rfl, rfl, by simp, fun k hk => Sort.heap_grow_old _ _ (by simpa using hk)⟩
theorem PCells.grown {w : World} {b off : Nat} {l : List Pr} (h : PCells w b off l) (hb : b < w.heap.size) {i : Nat} (hi : i < l.length) :
    (∀ n os, (Sort.grow (w.drewN n) os).cell? ⟨b, off + i * 2, none⟩ = some (.int .u64 l[i].1)) ∧ (∀ n os, (Sort.grow (w.drewN n) os).cell? ⟨b, off + i * 2 + 1, none⟩ = some (.int .u64 l[i].2)) :=
  ⟨fun n os => cell_grown hb (h i hi).1 n os, fun n os => cell_grown hb (h i hi).2 n os⟩
abbrev PV (a b : Int) : Value := .agg #[.int .u64 a, .int .u64 b]
/-- Whether a row may be a run. -/
def ckP (l : List Pr) : Int := if Run l ∧ l.length ≤ 1048576 then 0 else 130
theorem Calls.gr_of {P : Program} {f : FuncId} {args : Array Value} {w : World} {n : Nat} {os : Array Obj} {v : Value}
    (h : Calls P f args (Sort.grow (w.drewN n) os) fun e w' => e = .returned v ∧ Gr (Sort.grow (w.drewN n) os) w') : Calls P f args (Sort.grow (w.drewN n) os) fun e w'' => e = .returned v ∧ ∃ p : GrownBy, w'' = Sort.grow (w.drewN p.n) p.os :=
  Calls.grown_of h
end Go.Proofs.Kit
namespace Go.Proofs.Ytlhigfphfbmbjaa
open Go.RowKit Go.Proofs.Kit

theorem mixed : Try.prog.follows .mixedOrders = true := by kernel_rfl

set_option maxRecDepth 100000 in
set_option maxHeartbeats 400000 in
theorem cmpu_any (x y : Int) (w : World) : Calls Try.prog 75 #[.int .u64 x, .int .u64 y] w fun e w' => e = .returned (.int .i64 (cmp1 x y)) ∧ w = w' := by
  rcases Int.lt_trichotomy x y with h | h | h
  · have e : cmp1 x y = -1 := by unfold cmp1; rw [if_pos h]
    rw [e]
    go_enter Try.func75, Try.ntmps75
    go_wp2
    go_ret
    exact ⟨rfl, rfl⟩
  · subst h
    have e : cmp1 x x = 0 := by unfold cmp1; rw [if_neg (by omega), if_neg (by omega)]
    rw [e]
    go_enter Try.func75, Try.ntmps75
    go_wp2
    go_ret
    exact ⟨rfl, rfl⟩
  · have e : cmp1 x y = 1 := by unfold cmp1; rw [if_neg (by omega), if_pos h]
    rw [e]
    have h1 : decide (x < y) = false := by simp; omega
    go_enter Try.func75, Try.ntmps75
    go_wp2
    go_ret
    exact ⟨rfl, rfl⟩

set_option maxRecDepth 100000 in
set_option maxHeartbeats 1000000 in
theorem compare_any (a b c d : Int) (W : World) : Calls Try.prog 45 #[PV a b, PV c d] W fun e w' => e = .returned (.int .i64 (cf2 (a, b) (c, d))) ∧ Gr W w' := by
  unfold cf2
  simp only
  by_cases h : a = c
  · subst h
    rw [if_pos rfl]
    go_enter Try.func45, Try.ntmps45
    go_wp2_with (go_at_call 75; refine (cmpu_any b d _).mono ?_; rintro e w' ⟨rfl, rfl⟩)
    go_ret
    exact ⟨rfl, (Gr.alloc _ _).trans (Gr.alloc _ _)⟩
  · rw [if_neg h]
    have h1 : (a != c) = true := by simpa using h
    go_enter Try.func45, Try.ntmps45
    go_wp2_with (go_at_call 75; refine (cmpu_any a c _).mono ?_; rintro e w' ⟨rfl, rfl⟩)
    go_ret
    exact ⟨rfl, (Gr.alloc _ _).trans (Gr.alloc _ _)⟩
theorem compare_at (a b c d t : Int) (h : t = cf2 (a, b) (c, d)) (W : World) : Calls Try.prog 45 #[PV a b, PV c d] W fun e w' => e = .returned (.int .i64 t) ∧ Gr W w' := h ▸ compare_any a b c d W

set_option maxRecDepth 100000 in
set_option maxHeartbeats 1000000 in
theorem check_any (v : Value) (l : List Pr) (w : World) (hs : SegP w v l) :
    Calls Try.prog 44 #[v] w fun e w' => e = .returned (.int .i64 (ckP l)) ∧ Gr w w' := by
  have hmix := mixed
  obtain ⟨o, c, rfl, hc, hm, a⟩ := hs.shape
  by_cases hbig : l.length ≤ 1048576
  · obtain ⟨n, hn⟩ : ∃ n, n = l.length := ⟨_, rfl⟩
    rw [← hn] at hbig ⊢
    have HN := Lib.hid hn
    have HA := Lib.hid a
    clear hn a hs hc
    go_enter Try.func44, Try.ntmps44
    go_wp2
    go_loopw [3] (fun i wr => ∃ k : Nat, (k + 1 ≤ n ∨ k = 0) ∧ i = .int .i64 ((k : Int) + 1) ∧ Hid (Run (l.take (k + 1))) ∧ Gr w wr) (fun i _ => n - (intOf i).toNat)
    case atStart =>
      refine ⟨0, .inr rfl, rfl, Lib.hid ?_, Gr.refl _⟩
      cases l <;> simp [Run]
    case round =>
      obtain ⟨k, hk, rfl, hp, hB⟩ := hrel
      by_cases hlt : k + 1 < n
      · have hk1 : k + 1 < l.length := by have := HN.out; omega
        obtain ⟨b, f, rfl, hbl, hcells⟩ := HA.out.resolve_left (fun e => by rw [e] at hk1; simp at hk1)
        have hcr := hcells.below hB.below hbl
        have hbr : b < wr.heap.size := Nat.lt_of_lt_of_le hbl hB.below.size
        obtain ⟨d1, d2⟩ := hcr.grown hbr (i := k) (by omega)
        obtain ⟨d3, d4⟩ := hcr.grown hbr hk1
        have hx := cf2_neg l[k] l[k + 1]
        obtain ⟨x, hx'⟩ : ∃ x, x = l[k] := ⟨_, rfl⟩
        obtain ⟨y, hy'⟩ : ∃ y, y = l[k + 1] := ⟨_, rfl⟩
        rw [← hx'] at d1 d2 hx
        rw [← hy'] at d3 d4 hx
        have HX := Lib.hid hx'
        have HY := Lib.hid hy'
        clear hx' hy' hcr
        obtain ⟨x1, x2⟩ := x
        obtain ⟨y1, y2⟩ := y
        obtain ⟨t, ht⟩ : ∃ t, t = cf2 (x1, x2) (y1, y2) := ⟨_, rfl⟩
        rw [← ht] at hx
        have HT := Lib.hid ht
        have HC := Lib.hid hcells
        clear ht hcells
        have q1 : IntKind.i64.wrap (k : Int) = (k : Int) := by rw [IntKind.wrap_i64]; omega
        have q2 : (k : Int) + 1 < (n : Int) := by omega
        have q3 : (k : Int) < (n : Int) := by omega
        have q4 : (0 : Int) ≤ (k : Int) + 1 := by omega
        have q5 : ((k : Int) + 1).toNat = k + 1 := by omega
        by_cases h0 : t < 0
        · have ht0 : decide (0 ≤ t) = false := by simp; omega
          have HLT := Lib.hid (hx.1 h0)
          clear hx
          go_wp2
          go_quiet_grown ((go_at_call 45; refine Calls.gr_of (compare_at _ _ _ _ t HT.out _)))
          go_wp2
          go_roundw
          case rel =>
            refine ⟨k + 1, .inl (by omega), by go_num, Lib.hid ?_, hB.trans (Gr.grown _ _ _)⟩
            refine run_take_succ hk1 (by omega) hp.out ?_
            have e1 : l[k + 1 - 1]'(by omega) = (x1, x2) := HX.out.symm
            rw [e1, ← HY.out]
            exact HLT.out
          case measure => simp [intOf]; omega
        · have ht0 : decide (0 ≤ t) = true := by simp; omega
          have HLT := Lib.hid (fun q => h0 (hx.2 q))
          clear hx
          go_wp2
          go_quiet_grown ((go_at_call 45; refine Calls.gr_of (compare_at _ _ _ _ t HT.out _)))
          go_wp2
          go_ret
          refine ⟨?_, hB.trans (Gr.grown _ _ _)⟩
          have : ¬ Run l := by
            intro hr
            refine HLT.out ?_
            rw [HX.out, HY.out]
            exact hr.at (i := k) (j := k + 1) (by omega) hk1 (by omega)
          have hq : ckP l = 130 := if_neg (fun q => this q.1)
          rw [hq]
          rfl
      · go_wp2
        go_ret
        have : Run l := by
          have := hp.out
          rwa [List.take_of_length_le (by have := HN.out; omega)] at this
        have hq : ckP l = 0 := if_pos ⟨this, by have := HN.out; omega⟩
        rw [hq]
        exact ⟨rfl, hB⟩
  · have hq : ckP l = 130 := if_neg (fun q => hbig q.2)
    have h1 : decide ((1048576 : Int) < (l.length : Int)) = true := by simp; omega
    obtain ⟨n, hn⟩ : ∃ n, n = l.length := ⟨_, rfl⟩
    rw [← hn] at hbig h1 ⊢
    rw [hq]
    clear hq hn a hs hc
    go_enter Try.func44, Try.ntmps44
    go_wp2
    go_ret
    exact ⟨rfl, Gr.refl _⟩
end Go.Proofs.Ytlhigfphfbmbjaa

