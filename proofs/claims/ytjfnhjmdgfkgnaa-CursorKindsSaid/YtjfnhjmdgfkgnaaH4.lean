/- gallop.place: the first place that is sought, and how many looks that took. -/
import Derived.Test.YtjfnhjmdgfkgnaaH2
import Derived.Test.YtjfnhjmdgfkgnaaH3
import Derived.Test.YtjfnhjmdgfkgnaaRngQ
namespace Go.Proofs.Kit
open Go.RowKit
theorem blks6 (w : World) (v1 v2 v3 v4 v5 v6 : Array Value) (t1 t2 t3 t4 t5 t6 : TypeId) :
    let W := ((((((w.alloc (.cells v1 t1)).alloc (.cells v2 t2)).alloc (.cells v3 t3)).alloc (.cells v4 t4)).alloc (.cells v5 t5)).alloc (.cells v6 t6)).drew
    Blk W w.heap.size v1 t1 ∧ Blk W (w.heap.size + 1) v2 t2 ∧ Blk W (w.heap.size + 2) v3 t3 ∧ Blk W (w.heap.size + 3) v4 t4 ∧ Blk W (w.heap.size + 4) v5 t5 ∧ Blk W (w.heap.size + 5) v6 t6 ∧ Below w.heap.size w W := by
  intro W
  have h1 := Blk.new w v1 t1
  have h2 := Blk.new (w.alloc (.cells v1 t1)) v2 t2
  have h3 := Blk.new ((w.alloc (.cells v1 t1)).alloc (.cells v2 t2)) v3 t3
  have h4 := Blk.new (((w.alloc (.cells v1 t1)).alloc (.cells v2 t2)).alloc (.cells v3 t3)) v4 t4
  have h5 := Blk.new ((((w.alloc (.cells v1 t1)).alloc (.cells v2 t2)).alloc (.cells v3 t3)).alloc (.cells v4 t4)) v5 t5
  have h6 := Blk.new (((((w.alloc (.cells v1 t1)).alloc (.cells v2 t2)).alloc (.cells v3 t3)).alloc (.cells v4 t4)).alloc (.cells v5 t5)) v6 t6
  simp only [World.size_alloc] at h2 h3 h4 h5 h6
  refine ⟨(((((h1.alloc _).alloc _).alloc _).alloc _).alloc _).drew, ((((h2.alloc _).alloc _).alloc _).alloc _).drew, (((h3.alloc _).alloc _).alloc _).drew, ((h4.alloc _).alloc _).drew, (h5.alloc _).drew, h6.drew, ?_⟩
  exact (((((((Below.refl _ w).alloc (Nat.le_refl _) _).alloc (by simp) _).alloc (by simp; omega) _).alloc (by simp; omega) _).alloc (by simp; omega) _).alloc (by simp; omega) _).drew
theorem Blk.ne_def {w : World} {b D : Nat} {vs : Array Value} {t : TypeId} {x : Option (List Deferred)} (h : Blk w b vs t) (hd : w.heap[D]? = some (.deferred x)) : D ≠ b := by
  rintro rfl
  rw [show w.heap[D]? = _ from h] at hd
  cases hd
/-- What lies while a place is sought: the slice, the place, and the test that came in; from where, to where, and the looks. -/
structure PI (ts ti tf : TypeId) (w : World) (v : Value) (f : Nat) (fv : Value) (b8 b9 b10 : Nat) (low high looks : Nat) (wr : World) : Prop where
  k3 : Blk wr w.heap.size #[v] ts
  k4 : Blk wr (w.heap.size + 1) #[.int .i64 (f : Int)] ti
  k5 : Blk wr (w.heap.size + 2) #[fv] tf
  k8 : Blk wr b8 #[.int .i64 (low : Int)] ti
  k9 : Blk wr b9 #[.int .i64 (high : Int)] ti
  k10 : Blk wr b10 #[.int .i64 (looks : Int)] ti
  n8 : w.heap.size + 3 ≤ b8
  n9 : w.heap.size + 3 ≤ b9
  n10 : w.heap.size + 3 ≤ b10
  d89 : b8 ≠ b9
  d8a : b8 ≠ b10
  d9a : b9 ≠ b10
  low : Below w.heap.size w wr
section
variable {ts ti tf : TypeId} {w : World} {v fv : Value} {f b8 b9 b10 low high looks : Nat} {wr w' : World}
theorem PI.later (h : PI ts ti tf w v f fv b8 b9 b10 low high looks wr) (hb : Below wr.heap.size wr w') : PI ts ti tf w v f fv b8 b9 b10 low high looks w' :=
  ⟨h.k3.later hb, h.k4.later hb, h.k5.later hb, h.k8.later hb, h.k9.later hb, h.k10.later hb, h.n8, h.n9, h.n10, h.d89, h.d8a, h.d9a, h.low.trans (hb.mono h.low.size)⟩
theorem PI.aside {D : Nat} (h : PI ts ti tf w v f fv b8 b9 b10 low high looks wr) (ha : Aside D wr w') (hD : w.heap.size ≤ D) : PI ts ti tf w v f fv b8 b9 b10 low high looks w' :=
  ⟨ha.blk h.k3, ha.blk h.k4, ha.blk h.k5, ha.blk h.k8, ha.blk h.k9, ha.blk h.k10, h.n8, h.n9, h.n10, h.d89, h.d8a, h.d9a, ha.below h.low hD (Nat.le_refl _)⟩
theorem PI.set8 (h : PI ts ti tf w v f fv b8 b9 b10 low high looks wr) (x : Nat) : PI ts ti tf w v f fv b8 b9 b10 x high looks (wr.setCell ⟨b8, 0, none⟩ (.int .i64 (x : Int))) := by
  have := h.n8; have := h.d89; have := h.d8a
  exact ⟨h.k3.other (by simp; omega) _, h.k4.other (by simp; omega) _, h.k5.other (by simp; omega) _, h.k8.set 0 _, h.k9.other (by simp; omega) _, h.k10.other (by simp; omega) _, h.n8, h.n9, h.n10, h.d89, h.d8a, h.d9a, h.low.setCell (by simp; omega) _⟩
theorem PI.set9 (h : PI ts ti tf w v f fv b8 b9 b10 low high looks wr) (x : Nat) : PI ts ti tf w v f fv b8 b9 b10 low x looks (wr.setCell ⟨b9, 0, none⟩ (.int .i64 (x : Int))) := by
  have := h.n9; have := h.d89; have := h.d9a
  exact ⟨h.k3.other (by simp; omega) _, h.k4.other (by simp; omega) _, h.k5.other (by simp; omega) _, h.k8.other (by simp; omega) _, h.k9.set 0 _, h.k10.other (by simp; omega) _, h.n8, h.n9, h.n10, h.d89, h.d8a, h.d9a, h.low.setCell (by simp; omega) _⟩
theorem PI.set10 (h : PI ts ti tf w v f fv b8 b9 b10 low high looks wr) (x : Nat) : PI ts ti tf w v f fv b8 b9 b10 low high x (wr.setCell ⟨b10, 0, none⟩ (.int .i64 (x : Int))) := by
  have := h.n10; have := h.d8a; have := h.d9a
  exact ⟨h.k3.other (by simp; omega) _, h.k4.other (by simp; omega) _, h.k5.other (by simp; omega) _, h.k8.other (by simp; omega) _, h.k9.other (by simp; omega) _, h.k10.set 0 _, h.n8, h.n9, h.n10, h.d89, h.d8a, h.d9a, h.low.setCell (by simp; omega) _⟩
/-- Its cells. -/
theorem PI.facts (h : PI ts ti tf w v f fv b8 b9 b10 low high looks wr) : wr.cell? ⟨w.heap.size, 0, none⟩ = some v ∧ wr.cell? ⟨w.heap.size + 1, 0, none⟩ = some (.int .i64 (f : Int)) ∧ wr.cell? ⟨w.heap.size + 2, 0, none⟩ = some fv ∧
    wr.cell? ⟨b8, 0, none⟩ = some (.int .i64 (low : Int)) ∧ wr.cell? ⟨b9, 0, none⟩ = some (.int .i64 (high : Int)) ∧ wr.cell? ⟨b10, 0, none⟩ = some (.int .i64 (looks : Int)) :=
  ⟨h.k3.cell 0, h.k4.cell 0, h.k5.cell 0, h.k8.cell 0, h.k9.cell 0, h.k10.cell 0⟩
theorem PI.soft (h : PI ts ti tf w v f fv b8 b9 b10 low high looks wr) : wr.frozen? ⟨b8, 0, none⟩ = false ∧ wr.frozen? ⟨b9, 0, none⟩ = false ∧ wr.frozen? ⟨b10, 0, none⟩ = false :=
  ⟨h.k8.frozen 0, h.k9.frozen 0, h.k10.frozen 0⟩
end
end Go.Proofs.Kit
namespace Go.Proofs.Ytjfnhjmdgfkgnaa
open Go.RowKit Go.Proofs.Kit Go.Shelf
attribute [local go_sem] Oper.semAt_some

/-- What stands behind some leaps that found nothing. -/
structure RI (p : Int → Bool) (l : List Int) (w : World) (v : Value) (f : Nat) (fv : Value) (b8 b9 b10 bx n : Nat) (pre : List (Lp (n - f))) (W : World) : Prop where
  pi : PI 23 3 164 w v f fv b8 b9 b10 (lo f (pre.map (·.1))) n pre.length W
  kx : Blk W bx #[.int .i64 ((n - f : Nat) : Int)] 3
  no : ∀ j ∈ pre.map (·.1), ∀ h : f + 2 ^ j - 1 < l.length, p l[f + 2 ^ j - 1] = false
/-- What stands behind a leap that found it. -/
def RX (p : Int → Bool) (l : List Int) (w : World) (v : Value) (f : Nat) (fv : Value) (b8 b9 b10 n : Nat) (c : Code) (pre : List (Lp (n - f))) (W : World) : Prop :=
  c = .exit 0 ∧ ∃ (pre' : List (Lp (n - f))) (x : Lp (n - f)), pre = pre' ++ [x] ∧ PI 23 3 164 w v f fv b8 b9 b10 (lo f (pre'.map (·.1))) (f + 2 ^ x.1 - 1) (pre'.length + 1) W ∧
    (∀ j ∈ pre'.map (·.1), ∀ h : f + 2 ^ j - 1 < l.length, p l[f + 2 ^ j - 1] = false) ∧ ∃ h : f + 2 ^ x.1 - 1 < l.length, p l[f + 2 ^ x.1 - 1] = true
section
variable {p : Int → Bool} {l : List Int} {w : World} {v fv : Value} {f b8 b9 b10 bx n : Nat} {pre : List (Lp (n - f))} {W W' : World}
theorem RI.later (h : RI p l w v f fv b8 b9 b10 bx n pre W) (hb : Below W.heap.size W W') : RI p l w v f fv b8 b9 b10 bx n pre W' := ⟨h.pi.later hb, h.kx.later hb, h.no⟩
theorem RI.aside {D : Nat} (h : RI p l w v f fv b8 b9 b10 bx n pre W) (ha : Kit.Aside D W W') (hD : w.heap.size ≤ D) : RI p l w v f fv b8 b9 b10 bx n pre W' := ⟨h.pi.aside ha hD, ha.blk h.kx, h.no⟩
theorem RX.aside {D : Nat} {c : Code} (h : RX p l w v f fv b8 b9 b10 n c pre W) (ha : Kit.Aside D W W') (hD : w.heap.size ≤ D) : RX p l w v f fv b8 b9 b10 n c pre W' := by
  obtain ⟨h1, pre', x, h2, h3, h4⟩ := h
  exact ⟨h1, pre', x, h2, h3.aside ha hD, h4⟩
end
set_option maxRecDepth 100000 in
set_option maxHeartbeats 4000000 in
theorem place_ge_in (v : Value) (l : List Int) (w : World) (hs : Seg .u64 w v l) (hl : l.length ≤ 1000000) (hi : Inc l) (f : Nat) (hf : f ≤ l.length) (bk : Nat) (key : Int) (hb : Blk w bk #[.int .u64 key] 32) :
    CallsIn Fence.wide 6 Try.prog 138 #[v, .int .i64 (f : Int), .func (.func 139) #[] #[.pointer (some ⟨bk, 0, none⟩)]] w fun e w' => ∃ q : Nat, e = .returned (.tuple #[.int .i64 (sk (ge key) l f : Nat), .int .i64 (q : Int)]) ∧ Lks l.length f (sk (ge key) l f) q ∧ Below w.heap.size w w' := by
  have HMO := Lib.hid (mono_ge hi key)
  have HS := Lib.hid hs
  have HB := Lib.hid hb
  obtain ⟨o, c, rfl, hc, hm, a⟩ := hs.shape
  obtain ⟨n, hn⟩ : ∃ n, n = l.length := ⟨_, rfl⟩
  rw [← hn] at hl hf hs HS ⊢
  have HN := Lib.hid hn
  have HA := Lib.hid a
  clear hn a hs hc hi hb
  refine callsIn_of_wp_marks Try.func138 rfl trivial ?_ rfl
  simp only [Try.ntmps138, List.size_toArray, List.length_cons, List.length_nil, Nat.reduceAdd, Nat.reduceSub, Array.replicate_succ, Array.replicate_zero, List.push_toArray, List.append_toArray, List.nil_append, List.cons_append]
  refine wpIn_wide.2 ?_
  go_wp2
  go_step3
  go_upto_region 1 with (fail)
  go_cut [8, 9, 10] from 13 to 15 (fun s8 s9 s10 wc => ∃ b8 b9 b10, s8 = .pointer (some ⟨b8, 0, none⟩) ∧ s9 = .pointer (some ⟨b9, 0, none⟩) ∧ s10 = .pointer (some ⟨b10, 0, none⟩) ∧
    PI 23 3 164 w (.slice o n c) f (.func (.func 139) #[] #[.pointer (some ⟨bk, 0, none⟩)]) b8 b9 b10 f n 0 wc)
  case first =>
    go_region
    all_goals
      go_wp2_with fail
      go_meet
      obtain ⟨h1, h2, h3, h4, h5, h6, h7⟩ := blks6 w #[.slice o n c] #[.int .i64 (f : Int)] #[.func (.func 139) #[] #[.pointer (some ⟨bk, 0, none⟩)]] _ _ _ 23 3 164 3 3 3
      refine ⟨_, _, _, rfl, rfl, rfl, ⟨h1, h2, h3, ?_, ?_, ?_, by omega, by omega, by omega, by omega, by omega, by omega, h7⟩⟩ <;> first | exact h4 | exact h5 | exact h6
  case rest =>
    obtain ⟨b8, b9, b10, rfl, rfl, rfl, hP⟩ := hcut
    have hsz : w.heap.size + 3 ≤ wc.heap.size := by have := hP.k5.lt; omega
    obtain ⟨c3, c4, -, -, -, -⟩ := hP.facts
    have HP := Lib.hid hP
    clear hP
    have hnf : (n : Int) - (f : Int) = ((n - f : Nat) : Int) := by omega
    go_wp2
    go_step3
    go_wp2_with (go_at_call 140; refine (leaps_any _ _).mono ?_; rintro e w' ⟨rfl, rfl⟩)
    rename_i K hK
    obtain ⟨wl, hwl⟩ : ∃ wl, wl = wc.alloc (.cells #[.int .i64 ((n - f : Nat) : Int)] 3) := ⟨_, rfl⟩
    have hgl : Below wc.heap.size wc wl := by rw [hwl]; exact (Below.refl _ _).alloc (Nat.le_refl _) _
    have kx : Blk wl wc.heap.size #[.int .i64 ((n - f : Nat) : Int)] 3 := by rw [hwl]; exact Blk.new _ _ _
    have P1 := HP.out.later hgl
    rw [← hwl]
    clear hwl c3 c4
    have hw1 : w.heap.size ≤ wl.heap.size := P1.low.size
    have rest : ∀ (D low high looks m : Nat) (W : World), Sch (ge key) l f low high looks m → PI 23 3 164 w (.slice o n c) f (.func (.func 139) #[] #[.pointer (some ⟨bk, 0, none⟩)]) b8 b9 b10 low high looks W → w.heap.size ≤ D → W.heap[D]? = some (.deferred (some [])) →
        K { tmps := #[.slice o n c, .int .i64 (f : Int), .func (.func 139) #[] #[.pointer (some ⟨bk, 0, none⟩)], .pointer (some ⟨w.heap.size, 0, none⟩), .pointer (some ⟨w.heap.size + 1, 0, none⟩), .pointer (some ⟨w.heap.size + 1 + 1, 0, none⟩), .int .i64 0, .int .i64 0, .pointer (some ⟨b8, 0, none⟩), .pointer (some ⟨b9, 0, none⟩), .pointer (some ⟨b10, 0, none⟩), undef, undef, u13, u14, u15, .slice o n c, .int .i64 (n : Int), .int .i64 (f : Int), .int .i64 ((n - f : Nat) : Int), .func (.func 141) #[] #[.pointer (some ⟨wc.heap.size, 0, none⟩)], undef, undef, undef, undef, undef, undef, undef, undef, undef, undef, undef, undef, undef, undef, undef, undef, undef, undef, undef, undef, undef, undef, undef, undef, undef, undef, undef, undef, undef, undef, undef, undef, undef, undef, undef, undef, undef, undef, undef, undef], defers := [{ target := .collected D, args := #[] }] } W := by
      intro D low high looks m W hsch hpi hD hdef
      apply hK
      have HSCH := Lib.hid hsch
      have HPI := Lib.hid hpi
      have HDEF := Lib.hid hdef
      clear hsch hpi hdef
      go_wp2
      go_loopg [12] (high - low) (fun kx s12 wr => ∃ low high looks m : Nat, Hid (Sch (ge key) l f low high looks m) ∧ Hid (PI 23 3 164 w (.slice o n c) f (.func (.func 139) #[] #[.pointer (some ⟨bk, 0, none⟩)]) b8 b9 b10 low high looks wr) ∧ high - low ≤ kx ∧ Hid (wr.heap[D]? = some (.deferred (some []))))
      case atStart => exact ⟨low, high, looks, m, HSCH, HPI, Nat.le_refl _, HDEF⟩
      case round =>
        clear HSCH HPI HDEF
        obtain ⟨low, high, looks, m, HSCH, HPI, hkx, HDEF⟩ := hrel
        by_cases hlt : low < high
        · obtain ⟨mid, hmid⟩ : ∃ mid, mid = low + (high - low) / 2 := ⟨_, rfl⟩
          have h3 := HSCH.out.h3
          have h1 := HSCH.out.h1
          have hml : mid < l.length := by omega
          have hlk : looks ≤ 128 := by
            have := HSCH.out.few (by omega)
            have := log2_lt63 (m := 1 + low - f) (by have := HN.out; omega)
            omega
          have hmn : mid < n := by have := HN.out; omega
          have hhn : high ≤ n := by have := HN.out; omega
          obtain ⟨-, -, -, c8, c9, c10⟩ := HPI.out.facts
          obtain ⟨-, -, z10⟩ := HPI.out.soft
          have l10 := HPI.out.k10.lt
          have hlt' : decide (low < high) = true := by simpa using hlt
          have HMID := Lib.hid hmid
          have HML := Lib.hid hml
          clear hmid hml h3
          go_upto_region 10 with (fail)
          have P1 := HPI.out.set10 (looks + 1)
          rw [show ((looks + 1 : Nat) : Int) = (looks : Int) + 1 by omega] at P1
          have D1 : (wr.setCell ⟨b10, 0, none⟩ (.int .i64 ((looks : Int) + 1))).heap[D]? = some (.deferred (some [])) := (Below.heap_setCell _ _ _ _ (HPI.out.k10.ne_def HDEF.out)).trans HDEF.out
          obtain ⟨W1, hW1⟩ : ∃ W1, W1 = wr.setCell ⟨b10, 0, none⟩ (.int .i64 ((looks : Int) + 1)) := ⟨_, rfl⟩
          rw [← hW1] at P1 D1 ⊢
          clear hW1 c8 c9 c10 z10 l10
          obtain ⟨bb, ff, rfl, hbl, hcells⟩ := HA.out.resolve_left (fun e => by have := HML.out; rw [e] at this; simp at this)
          have d1 := (P1.low.cell (p := ⟨bb, ff + mid, none⟩) hbl).trans (hcells mid HML.out)
          have hbW1 : Blk W1 bk #[.int .u64 key] 32 := HB.out.later P1.low
          obtain ⟨c3, -, c5, c8, c9, -⟩ := P1.facts
          obtain ⟨z8, z9, -⟩ := P1.soft
          have l8 := P1.k8.lt
          have l9 := P1.k9.lt
          obtain ⟨y, hy⟩ : ∃ y, y = l[mid]'HML.out := ⟨_, rfl⟩
          rw [← hy] at d1
          obtain ⟨t, ht⟩ : ∃ t, t = ge key y := ⟨_, rfl⟩
          have hcall : ∀ m : Nat, Calls Try.prog 139 #[.int .u64 y, .pointer (some ⟨bk, 0, none⟩)] (W1.drewN m) fun e w' => e = .returned (.bool t) ∧ w' = W1.drewN m := fun m =>
            (by rw [ht]; exact gatLeast1_any bk key y _ (hbW1.drewN _))
          have HCALL := Lib.hid hcall
          have HT := Lib.hid ht
          have HY := Lib.hid hy
          have HP1 := Lib.hid P1
          have HD1 := Lib.hid D1
          have q0 : (low : Int) + ((high : Int) - (low : Int)) / 2 = (mid : Int) := by have := HMID.out; omega
          have q2 : (mid : Int) < (n : Int) := by omega
          clear hcells hbW1 hy ht hcall P1 D1
          go_upto_region 11 with (fail)
          go_quiet ((go_at_call 139; exact Calls.quiet_of_same (HCALL.out _)))
          cases t
          · go_wp2
            go_roundg (high - (mid + 1))
            case measure => have := HMID.out; omega
            case rel =>
              obtain ⟨m', -, hs⟩ := HSCH.out.right hlt (by rw [← HMID.out]; exact HML.out) (by simp only [← HMID.out]; rw [← HY.out]; exact HT.out.symm) HMO.out
              have P8 := (HP1.out.later (Dr.drewN W1 nq).below).set8 (mid + 1)
              rw [show ((mid + 1 : Nat) : Int) = (mid : Int) + 1 by omega] at P8
              rw [← HMID.out] at hs
              exact ⟨mid + 1, high, looks + 1, m', Lib.hid hs, Lib.hid P8, Nat.le_refl _, Lib.hid ((Below.heap_setCell _ _ _ _ (HP1.out.k8.ne_def HD1.out)).trans HD1.out)⟩
          · go_wp2
            go_roundg (mid - low)
            case measure => have := HMID.out; omega
            case rel =>
              obtain ⟨m', -, hs⟩ := HSCH.out.left hlt (by rw [← HMID.out]; exact HML.out) (by simp only [← HMID.out]; rw [← HY.out]; exact HT.out.symm) HMO.out
              have P9 := (HP1.out.later (Dr.drewN W1 nq).below).set9 mid
              rw [← HMID.out] at hs
              exact ⟨low, mid, looks + 1, m', Lib.hid hs, Lib.hid P9, Nat.le_refl _, Lib.hid ((Below.heap_setCell _ _ _ _ (HP1.out.k9.ne_def HD1.out)).trans HD1.out)⟩
        · obtain ⟨-, -, -, c8, c9, c10⟩ := HPI.out.facts
          have hlt' : decide (low < high) = false := by simpa using hlt
          obtain ⟨e1, e2⟩ := HSCH.out.done hlt
          have E1 := Lib.hid e1
          have E2 := Lib.hid e2
          clear e1 e2
          go_wp2
          go_quiet (fail)
          go_wp2
          rw [Exit.noGoto_ret]
          refine ⟨by simp, .inl ⟨_, _, rfl, run_takeDeferred (w := wr.drewN nq) HDEF.out, ?_⟩⟩
          refine ⟨.tuple #[.int .i64 (low : Int), .int .i64 (looks : Int)], by simp [results, Try.results138, go_sem], looks, ?_, ?_, ?_⟩
          · rw [← E1.out]
          · rw [HN.out]; exact E2.out
          · exact (HPI.out.low.trans (Dr.drewN wr nq).below).trans (below_put' _ _ hD)
    clear hK
    have HR := Lib.hid rest
    clear rest
    have I0 : RI (ge key) l w (.slice o n c) f (.func (.func 139) #[] #[.pointer (some ⟨bk, 0, none⟩)]) b8 b9 b10 wc.heap.size n [] wl := ⟨P1, kx, by simp⟩
    have HI0 := Lib.hid I0
    clear I0 P1 kx
    have hseq := leaps1_in 5 (by decide) wc.heap.size (n - f) (by omega)
    refine (wpIn_wide (n := 6)).1 ?_
    refine rangeG (α := Lp (n - f)) rfl (by decide) (gf := 141) (lb := #[.pointer (some ⟨wc.heap.size, 0, none⟩)]) rfl trivial (enters_of Try.func141 (by kernel_rfl) rfl) hseq (fun _ => rfl)
      (fun pre W => RI (ge key) l w (.slice o n c) f (.func (.func 139) #[] #[.pointer (some ⟨bk, 0, none⟩)]) b8 b9 b10 wc.heap.size n pre W)
      (fun c' pre W => RX (ge key) l w (.slice o n c) f (.func (.func 139) #[] #[.pointer (some ⟨bk, 0, none⟩)]) b8 b9 b10 n c' pre W)
      (fun pre X X' h ha => h.aside ha hw1) (fun c' pre X X' h ha => h.aside ha hw1) (fun pre X h => h.kx) (fun pre X X' h hb => h.later hb) HI0.out
      (fun x _ => { tmps := #[.slice o n c, .int .i64 (f : Int), .func (.func 139) #[] #[.pointer (some ⟨bk, 0, none⟩)], .pointer (some ⟨w.heap.size, 0, none⟩), .pointer (some ⟨w.heap.size + 1, 0, none⟩), .pointer (some ⟨w.heap.size + 1 + 1, 0, none⟩), .int .i64 0, .int .i64 0, .pointer (some ⟨b8, 0, none⟩), .pointer (some ⟨b9, 0, none⟩), .pointer (some ⟨b10, 0, none⟩), .int .i64 (((2 ^ x.1 : Nat) : Int) - 1), undef, u13, u14, u15, .slice o n c, .int .i64 (n : Int), .int .i64 (f : Int), .int .i64 ((n - f : Nat) : Int), .func (.func 141) #[] #[.pointer (some ⟨wc.heap.size, 0, none⟩)], .int .i64 (((2 ^ x.1 : Nat) : Int) - 1), undef, undef, undef, undef, undef, undef, undef, undef, undef, undef, undef, undef, undef, undef, undef, undef, undef, undef, undef, undef, undef, undef, undef, undef, undef, undef, undef, undef, undef, undef, undef, undef, undef, undef, undef, undef, undef, undef, undef], defers := [] })
      (fun _ _ _ => True) (fun _ _ _ _ _ _ => trivial) ?assign ?body ?done ?stop
    case assign =>
      intro l x W K hK
      gi_wp2
      exact hK W.heap.size W (Below.refl _ _) (Nat.le_refl _) trivial
    case body =>
      rintro lp pre x r W hI hlen - hn -
      obtain ⟨-, -, -, -, -, c10⟩ := hI.pi.facts
      obtain ⟨-, -, z10⟩ := hI.pi.soft
      have l10 := hI.pi.k10.lt
      obtain ⟨X, hX⟩ : ∃ X, X = 2 ^ x.1 := ⟨_, rfl⟩
      have hXf : X ≤ n - f := by rw [hX]; exact x.2
      have hX0 : 0 < X := by rw [hX]; exact Nat.two_pow_pos _
      rw [← hX]
      have HX := Lib.hid hX
      have HRI := Lib.hid hI
      have HNC := Lib.hid hn
      clear hI hn hX
      gi_wp2_with fail
      have P1 := HRI.out.pi.set10 (pre.length + 1)
      have hK1 : Keep2 wl.heap.size W (W.setCell ⟨b10, 0, none⟩ (.int .i64 ((pre.length : Int) + 1))) := (Keep2.refl _ _).setCell (HNC.out.blk HRI.out.pi.k10).1 (HNC.out.blk HRI.out.pi.k10).2 _
      rw [show ((pre.length + 1 : Nat) : Int) = (pre.length : Int) + 1 by omega] at P1
      obtain ⟨W1, hW1⟩ : ∃ W1, W1 = W.setCell ⟨b10, 0, none⟩ (.int .i64 ((pre.length : Int) + 1)) := ⟨_, rfl⟩
      rw [← hW1] at P1 hK1 ⊢
      have hb10 := HP.out.k10.lt
      have KX1 : Blk W1 wc.heap.size #[.int .i64 ((n - f : Nat) : Int)] 3 := by rw [hW1]; exact HRI.out.kx.other (by simp; omega) _
      have HKX1 := Lib.hid KX1
      have N1 : NC wl.heap.size W1 := by rw [hW1]; exact HNC.out.setCell (HNC.out.blk HRI.out.pi.k10).1 (HNC.out.blk HRI.out.pi.k10).2 _
      clear hW1 c10 z10 l10 hb10 KX1
      have hj : f + X - 1 < l.length := by have := HN.out; omega
      obtain ⟨bb, ff, rfl, hbl, hcells⟩ := HA.out.resolve_left (fun e => by rw [e] at hj; simp at hj)
      have d1 := (P1.low.cell (p := ⟨bb, ff + (f + X - 1), none⟩) hbl).trans (hcells (f + X - 1) hj)
      have hbW1 : Blk W1 bk #[.int .u64 key] 32 := HB.out.later P1.low
      obtain ⟨c3, c4, c5, c8, c9, -⟩ := P1.facts
      obtain ⟨z8, z9, -⟩ := P1.soft
      have l8 := P1.k8.lt
      have l9 := P1.k9.lt
      obtain ⟨j, hjj⟩ : ∃ j, j = f + X - 1 := ⟨_, rfl⟩
      have q1 : (f : Int) + ((X : Int) - 1) = (j : Int) := by omega
      have q2 : (j : Int) < (n : Int) := by omega
      have hno := HRI.out.no
      have HNO := Lib.hid hno
      have HP1 := Lib.hid P1
      have HK1 := Lib.hid hK1
      have HN1 := Lib.hid N1
      have HBW := Lib.hid hbW1
      obtain ⟨y, hy⟩ : ∃ y, y = l[f + X - 1] := ⟨_, rfl⟩
      rw [← hy] at d1
      rw [← hjj] at d1
      have HY := Lib.hid hy
      have HJ := Lib.hid hjj
      have hx2 : j + 1 = f + X := by omega
      have HX2 := Lib.hid hx2
      clear hno P1 hK1 N1 hbW1 hy hcells hjj hx2
      obtain ⟨t, ht⟩ : ∃ t, t = ge key y := ⟨_, rfl⟩
      have HT := Lib.hid ht
      have hcall : ∀ m : Nat, CallsIn Fence.wide (4 - 1) Try.prog 139 #[.int .u64 y, .pointer (some ⟨bk, 0, none⟩)] (W1.drewN m) fun e w' => e = .returned (.bool t) ∧ w' = W1.drewN m := fun m =>
        callsIn_wide.2 (by rw [ht]; exact gatLeast1_any bk key y _ (HBW.out.drewN _))
      have HCALL := Lib.hid hcall
      clear ht hcall
      refine wpIn_region_quiet_round rfl (by kernel_rfl) (by kernel_rfl) (by kernel_rfl) ?_
      repeat (gi_big_quiet_step (fail))
      refine BigFrame.wpQuietIn_want (fun _ _ _ _ => trivial) rfl ?_
      intro K0 hK0
      gi_big_quiet_op
      gi_big_quiet_call ((gi_at_call 139; exact CallsIn.quiet_of_same (HCALL.out _)))
      refine wpQuietIn_nil ?_
      intro _ hw'
      obtain ⟨nq, rfl⟩ := hw'
      cases t
      · gi_wp2_with fail
        have hx0 := HX.out
        have P8 := (HP1.out.later (Dr.drewN W1 nq).below).set8 (j + 1)
        rw [show ((j + 1 : Nat) : Int) = (j : Int) + 1 by omega] at P8
        have hb8 := HP.out.k8.lt
        refine ⟨Keep2.setCell (W := W1.drewN nq) HK1.out (HN1.out.blk HP1.out.k8).1 (HN1.out.blk HP1.out.k8).2 _, ⟨?_, (HKX1.out.drewN nq).other (by simp; omega) _, ?_⟩⟩
        · rw [List.map_append, List.map_cons, List.map_nil, lo_snoc, ← hx0, ← HX2.out, List.length_append, List.length_singleton]
          exact P8
        · intro j' hj' h
          rw [List.map_append, List.mem_append] at hj'
          rcases hj' with hj' | hj'
          · exact HNO.out j' hj' h
          · obtain rfl : j' = x.1 := by simpa using hj'
            subst hx0
            rw [← HY.out]
            exact HT.out.symm
      · gi_wp2_with fail
        have hx0 := HX.out
        have P9 := (HP1.out.later (Dr.drewN W1 nq).below).set9 j
        refine ⟨Keep2.setCell (W := W1.drewN nq) HK1.out (HN1.out.blk HP1.out.k9).1 (HN1.out.blk HP1.out.k9).2 _, rfl, pre, x, rfl, ?_, HNO.out, ?_⟩
        · rw [← hx0, ← HJ.out]
          exact P9
        · subst hx0
          exact ⟨hj, by rw [← HY.out]; exact HT.out.symm⟩
    case done =>
      rintro D xs W ⟨hF, hend⟩ hI hD hdef
      have h := sch_all (l := l) (f := f) HMO.out (pre := xs.map (·.1)) (by rw [List.length_map]; exact hF) (by have := HN.out; omega) (by intro k hk; obtain ⟨y, _, rfl⟩ := List.mem_map.1 hk; have := y.2; have := HN.out; omega) (by rw [List.length_map]; have := HN.out; omega) hI.no
      rw [List.length_map, ← HN.out] at h
      exact HR.out D _ _ _ _ W h hI.pi (by omega) hdef
    case stop =>
      rintro D c' pre W hF ⟨rfl, pre', x, rfl, hpi, hno, hx, hyes⟩ hD hdef
      refine wpIn_wide.2 ?_
      go_wp2
      have h := sch_stop HMO.out (pre := pre'.map (·.1)) (k := x.1) (by have := hF; unfold FirstL at this; simpa using this) (by have := x.2; have := HN.out; omega) hno hyes
      rw [List.length_map] at h
      exact HR.out D _ _ _ _ W h hpi (by omega) hdef
theorem place_ge (v : Value) (l : List Int) (w : World) (hs : Seg .u64 w v l) (hl : l.length ≤ 1000000) (hi : Inc l) (f : Nat) (hf : f ≤ l.length) (bk : Nat) (key : Int) (hb : Blk w bk #[.int .u64 key] 32) :
    Calls Try.prog 138 #[v, .int .i64 (f : Int), .func (.func 139) #[] #[.pointer (some ⟨bk, 0, none⟩)]] w fun e w' => ∃ q : Nat, e = .returned (.tuple #[.int .i64 (sk (ge key) l f : Nat), .int .i64 (q : Int)]) ∧ Lks l.length f (sk (ge key) l f) q ∧ Below w.heap.size w w' :=
  callsIn_wide.1 (place_ge_in v l w hs hl hi f hf bk key hb)
end Go.Proofs.Ytjfnhjmdgfkgnaa

