/- trie.gather, at its four instances. -/
import Derived.Test.YtjfnhjmdgfkgnaaU2
namespace Go.Proofs.Kit
open Go.RowKit
/-- All but rows of cells of a type lies as it lay. -/
def KeepT (t : TypeId) (w w' : World) : Prop := w.heap.size ≤ w'.heap.size ∧ ∀ k, k < w.heap.size → (∀ vs f, w.heap[k]? ≠ some (.cells vs t f)) → w'.heap[k]? = w.heap[k]?
section
variable {t : TypeId} {w w1 w' : World}
theorem KeepT.refl (t : TypeId) (w : World) : KeepT t w w := ⟨Nat.le_refl _, fun _ _ _ => rfl⟩
theorem KeepT.trans (h : KeepT t w w1) (k : KeepT t w1 w') : KeepT t w w' :=
  ⟨Nat.le_trans h.1 k.1, fun i hi hn => by
    have e := h.2 i hi hn
    rw [← e]
    exact k.2 i (Nat.lt_of_lt_of_le hi h.1) (fun vs f => by rw [e]; exact hn vs f)⟩
theorem KeepT.of_below (h : Below w.heap.size w w') : KeepT t w w' := ⟨h.size, fun k hk _ => h.block k hk⟩
theorem KeepT.blk (h : KeepT t w w') {b : Nat} {vs : Array Value} {t' : TypeId} (hb : Blk w b vs t') (ht : t' ≠ t) : Blk w' b vs t' :=
  (h.2 b hb.lt (fun vs' f e => by
    have hb' : w.heap[b]? = some (.cells vs t' (0, 0)) := hb
    rw [hb'] at e
    injection e with e
    injection e with _ e _
    exact ht e)).trans hb
theorem KeepT.of_grown {B : Nat} {v : Value} {l : List Pr} (ho : OwnP t B w v l) (h : w.grownBy w' v.ownBlock) : KeepT t w w' :=
  ⟨h.size, fun k hk hn => h.block k hk (fun e => by
    rcases ho.2.2 with ⟨rfl, _⟩ | ⟨g, cap, cur, rfl, _, hb, _⟩
    · simp [Value.ownBlock] at e
    · simp [Value.ownBlock] at e
      subst e
      exact hn _ _ hb)⟩
theorem KeepT.alloc (h : KeepT t w w1) (o : Obj) : KeepT t w (w1.alloc o) := h.trans (.of_below ((Below.refl _ _).alloc (Nat.le_refl _) _))
end
end Go.Proofs.Kit
namespace Go.Proofs.Ytjfnhjmdgfkgnaa
open Go.RowKit Go.Proofs.Kit

theorem infoB : ∃ i, Try.prog.info? 68 = some i ∧ i.zero = some (.agg #[.int .u64 0, .int .i64 0, .int .i64 0]) ∧ i.size = 3 ∧ i.bytes = 24 := info_parts (by kernel_rfl)
set_option maxRecDepth 100000 in
set_option maxHeartbeats 400000 in
theorem secondOf_any (a b : Int) (w : World) : Calls Try.prog 91 #[PV a b] w fun e w' => e = .returned (.int .u64 b) ∧ Gr w w' := by
  go_enter Try.func91, Try.ntmps91
  go_wp2
  go_ret
  exact ⟨rfl, Gr.alloc _ _⟩
set_option maxRecDepth 100000 in
set_option maxHeartbeats 400000 in
theorem keyOf_any (a b c : Int) (w : World) : Calls Try.prog 93 #[BV a b c] w fun e w' => e = .returned (.int .u64 a) ∧ Gr w w' := by
  go_enter Try.func93, Try.ntmps93
  go_wp2
  go_ret
  exact ⟨rfl, Gr.alloc _ _⟩
set_option maxRecDepth 100000 in
set_option maxHeartbeats 400000 in
theorem pairs1_any (n k : Int) (bk : Nat) (w : World) (hk : Blk w bk #[.int .u64 k] 32) :
    Calls Try.prog 89 #[.int .u64 n, .pointer (some ⟨bk, 0, none⟩)] w fun e w' => e = .returned (PV k n) ∧ Gr w w' := by
  have d1 := hk.cell 0
  simp only [List.getElem?_toArray, List.getElem?_cons_zero] at d1
  have hlt := hk.lt
  clear hk
  go_enter Try.func89, Try.ntmps89
  go_wp2
  refine bodyPost_ret (v := PV k n) (by simp [results, Try.results89, go_sem]) rfl ⟨rfl, ?_⟩
  exact Gr.alloc _ _
set_option maxRecDepth 100000 in
set_option maxHeartbeats 400000 in
theorem part1_any (k f t s : Int) (bk : Nat) (w : World) (hk : Blk w bk #[.int .i64 s] 3) (h0 : 0 ≤ f) (h1 : f ≤ t) (h2 : t ≤ 1048576) (h3 : 0 ≤ s) (h4 : s ≤ f) :
    Calls Try.prog 97 #[BV k f t, .pointer (some ⟨bk, 0, none⟩)] w fun e w' => e = .returned (BV k (f - s) (t - s)) ∧ Gr w w' := by
  have d1 := hk.cell 0
  simp only [List.getElem?_toArray, List.getElem?_cons_zero] at d1
  have hlt := hk.lt
  clear hk
  go_enter Try.func97, Try.ntmps97
  go_wp2
  refine bodyPost_ret (v := BV k (f - s) (t - s)) (by simp [results, Try.results97, go_sem]) rfl ⟨rfl, ?_⟩
  exact (Gr.alloc _ _).trans (Gr.alloc _ _)

set_option maxRecDepth 100000 in
set_option maxHeartbeats 2000000 in
theorem gathPu_any (B : Nat) (v0 : Value) (l0 : List Int) (v : Value) (l : List Pr) (w : World) (ho : Owns .u64 32 B w v0 l0) (hB : B ≤ w.heap.size) (hs : ∀ W, Below B w W → SegP W v l) (hn : l0.length + l.length ≤ 1000000000) :
    Calls Try.prog 90 #[v0, v, .func (.func 91) #[] #[]] w fun e w' => ∃ v', e = .returned v' ∧ Owns .u64 32 B w' v' (l0 ++ l.map (·.2)) ∧ Below B w w' := by
  obtain ⟨i0, hi, hz0, hz1, hz2⟩ := infou
  obtain ⟨o, c, rfl, hc, hcm, _⟩ := (hs w (Below.refl _ _)).shape
  obtain ⟨n, hnl⟩ : ∃ n, n = l.length := ⟨_, rfl⟩
  rw [← hnl] at hn hs hc ⊢
  have HS := Lib.hid hs
  have HN := Lib.hid hnl
  have HO := Lib.hid ho
  have HL := Lib.hid hn
  have hn' : n ≤ 1000000000 := by omega
  clear hs hnl ho hn
  go_enter Try.func90, Try.ntmps90
  go_wp2
  go_loopw [0, 11] (fun s i wr => ∃ k : Nat, k ≤ n ∧ i = .int .i64 (k : Int) ∧ Hid (Owns .u64 32 B wr s (l0 ++ (l.take k).map (·.2))) ∧ Below B w wr) (fun _ i _ => n - (intOf i).toNat)
  case atStart => exact ⟨0, by omega, rfl, Lib.hid (by simpa using HO.out), Below.refl _ _⟩
  case round =>
    obtain ⟨k, hk, rfl, HOK, hlow⟩ := hrel
    by_cases hlt : k < n
    · have hkl : k < l.length := by have := HN.out; omega
      obtain ⟨o', c', ev, _, _, hsh⟩ := (HS.out _ hlow).shape
      obtain ⟨b, f, rfl, hb, hcells⟩ := hsh.resolve_left (fun e => by rw [e] at hkl; simp at hkl)
      injection ev with e1 e2 e3
      subst e1 e2 e3
      obtain ⟨d1, d2⟩ := hcells k hkl
      have hts : l0 ++ (l.take (k + 1)).map (·.2) = (l0 ++ (l.take k).map (·.2)) ++ [l[k].2] := by rw [List.take_succ_eq_append_getElem hkl, List.map_append, List.append_assoc]; rfl
      obtain ⟨x, hx⟩ : ∃ x, x = l[k] := ⟨_, rfl⟩
      rw [← hx] at d1 d2 hts
      have HTS := Lib.hid hts
      clear hx hts hcells hsh
      obtain ⟨a, b'⟩ := x
      simp only at d1 d2
      go_wp2_with fail
      refine (secondOf_any a b' _).mono ?_
      rintro e w2 ⟨rfl, g2⟩
      have b2 : Below B w w2 := hlow.trans (((Below.refl _ _).alloc (by have := hlow.size; omega) _).trans (g2.below.mono (by have := hlow.size; simp; omega)))
      have o2 : Owns .u64 32 B w2 _ (l0 ++ (l.take k).map (·.2)) := (HOK.out.alloc _).later g2.below
      have HO2 := Lib.hid (o2.alloc (.cells #[.int .u64 b'] 32))
      have HSG := Lib.hid (Seg.one (k := .u64) (w := w2) (t := 32) (b'))
      clear o2 g2 d1 d2
      go_wp2_with (at_builtin; refine wpList_append_seg rfl _ _ 23 rfl .u64 B 32 i0 (.int .u64 0) 8 Try.underlying23 hi hz0 hz1 hz2 rfl _ _ rfl HO2.out _ [b'] rfl HSG.out ?qa ?qb ?qc ?_)
      case qa => have := HL.out; simp; omega
      case qb => have := HL.out; simp; omega
      case qc => have := b2.size; simp; omega
      intro v3 w3 hO3 hb3
      go_wp2
      go_roundw
      case rel =>
        refine ⟨k + 1, by omega, by go_num, Lib.hid ?_, (b2.alloc (by have := b2.size; omega) _).trans hb3⟩
        rw [HTS.out, List.append_assoc, List.map_take]
        exact hO3
      case measure => simp [intOf]; omega
    · go_wp2
      go_ret
      refine ⟨_, rfl, ?_, hlow⟩
      have h := HOK.out
      rw [List.take_of_length_le (by have := HN.out; omega)] at h
      exact h
set_option maxRecDepth 100000 in
set_option maxHeartbeats 2000000 in
theorem gathBu_any (B : Nat) (v0 : Value) (l0 : List Int) (v : Value) (l : List Br) (w : World) (ho : Owns .u64 32 B w v0 l0) (hB : B ≤ w.heap.size) (hs : ∀ W, Below B w W → SegR W v l) (hn : l0.length + l.length ≤ 1000000000) :
    Calls Try.prog 92 #[v0, v, .func (.func 93) #[] #[]] w fun e w' => ∃ v', e = .returned v' ∧ Owns .u64 32 B w' v' (l0 ++ l.map (·.1)) ∧ Below B w w' := by
  obtain ⟨i0, hi, hz0, hz1, hz2⟩ := infou
  obtain ⟨o, c, rfl, hc, hcm, _⟩ := (hs w (Below.refl _ _)).shape
  obtain ⟨n, hnl⟩ : ∃ n, n = l.length := ⟨_, rfl⟩
  rw [← hnl] at hn hs hc ⊢
  have HS := Lib.hid hs
  have HN := Lib.hid hnl
  have HO := Lib.hid ho
  have HL := Lib.hid hn
  have hn' : n ≤ 1000000000 := by omega
  clear hs hnl ho hn
  go_enter Try.func92, Try.ntmps92
  go_wp2
  go_loopw [0, 11] (fun s i wr => ∃ k : Nat, k ≤ n ∧ i = .int .i64 (k : Int) ∧ Hid (Owns .u64 32 B wr s (l0 ++ (l.take k).map (·.1))) ∧ Below B w wr) (fun _ i _ => n - (intOf i).toNat)
  case atStart => exact ⟨0, by omega, rfl, Lib.hid (by simpa using HO.out), Below.refl _ _⟩
  case round =>
    obtain ⟨k, hk, rfl, HOK, hlow⟩ := hrel
    by_cases hlt : k < n
    · have hkl : k < l.length := by have := HN.out; omega
      obtain ⟨o', c', ev, _, _, hsh⟩ := (HS.out _ hlow).shape
      obtain ⟨b, f, rfl, hb, hcells⟩ := hsh.resolve_left (fun e => by rw [e] at hkl; simp at hkl)
      injection ev with e1 e2 e3
      subst e1 e2 e3
      obtain ⟨d1, d2, d3⟩ := hcells k hkl
      have hts : l0 ++ (l.take (k + 1)).map (·.1) = (l0 ++ (l.take k).map (·.1)) ++ [l[k].1] := by rw [List.take_succ_eq_append_getElem hkl, List.map_append, List.append_assoc]; rfl
      obtain ⟨x, hx⟩ : ∃ x, x = l[k] := ⟨_, rfl⟩
      rw [← hx] at d1 d2 d3 hts
      have HTS := Lib.hid hts
      clear hx hts hcells hsh
      obtain ⟨a, b', c'⟩ := x
      simp only at d1 d2 d3
      go_wp2_with fail
      refine (keyOf_any a b' c' _).mono ?_
      rintro e w2 ⟨rfl, g2⟩
      have b2 : Below B w w2 := hlow.trans (((Below.refl _ _).alloc (by have := hlow.size; omega) _).trans (g2.below.mono (by have := hlow.size; simp; omega)))
      have o2 : Owns .u64 32 B w2 _ (l0 ++ (l.take k).map (·.1)) := (HOK.out.alloc _).later g2.below
      have HO2 := Lib.hid (o2.alloc (.cells #[.int .u64 a] 32))
      have HSG := Lib.hid (Seg.one (k := .u64) (w := w2) (t := 32) (a))
      clear o2 g2 d1 d2 d3
      go_wp2_with (at_builtin; refine wpList_append_seg rfl _ _ 23 rfl .u64 B 32 i0 (.int .u64 0) 8 Try.underlying23 hi hz0 hz1 hz2 rfl _ _ rfl HO2.out _ [a] rfl HSG.out ?qa ?qb ?qc ?_)
      case qa => have := HL.out; simp; omega
      case qb => have := HL.out; simp; omega
      case qc => have := b2.size; simp; omega
      intro v3 w3 hO3 hb3
      go_wp2
      go_roundw
      case rel =>
        refine ⟨k + 1, by omega, by go_num, Lib.hid ?_, (b2.alloc (by have := b2.size; omega) _).trans hb3⟩
        rw [HTS.out, List.append_assoc, List.map_take]
        exact hO3
      case measure => simp [intOf]; omega
    · go_wp2
      go_ret
      refine ⟨_, rfl, ?_, hlow⟩
      have h := HOK.out
      rw [List.take_of_length_le (by have := HN.out; omega)] at h
      exact h
set_option maxRecDepth 100000 in
set_option maxHeartbeats 2000000 in
theorem gathuP_any (B : Nat) (v0 : Value) (l0 : List Pr) (v : Value) (l : List Int) (w : World) (key : Int) (bk : Nat) (ho : OwnP 83 B w v0 l0) (hB : B ≤ w.heap.size) (hs : ∀ W, Below B w W → Seg .u64 W v l) (hk : Blk w bk #[.int .u64 key] 32) (hn : l0.length + l.length ≤ 1000000000) :
    Calls Try.prog 88 #[v0, v, .func (.func 89) #[] #[.pointer (some ⟨bk, 0, none⟩)]] w fun e w' => ∃ v', e = .returned v' ∧ OwnP 83 B w' v' (l0 ++ l.map fun n => (key, n)) ∧ Below B w w' ∧ KeepT 83 w w' := by
  obtain ⟨i0, hi, hz0, hz1, hz2⟩ := infoP
  obtain ⟨o, c, rfl, hc, hcm, _⟩ := (hs w (Below.refl _ _)).shape
  obtain ⟨n, hnl⟩ : ∃ n, n = l.length := ⟨_, rfl⟩
  rw [← hnl] at hn hs hc ⊢
  have HS := Lib.hid hs
  have HN := Lib.hid hnl
  have HO := Lib.hid ho
  have HL := Lib.hid hn
  have HK := Lib.hid hk
  have hn' : n ≤ 1000000000 := by omega
  clear hs hnl ho hn hk
  go_enter Try.func88, Try.ntmps88
  go_wp2
  go_loopw [0, 11] (fun s i wr => ∃ k : Nat, k ≤ n ∧ i = .int .i64 (k : Int) ∧ Hid (OwnP 83 B wr s (l0 ++ (l.take k).map fun n => (key, n))) ∧ Below B w wr ∧ Hid (KeepT 83 w wr)) (fun _ i _ => n - (intOf i).toNat)
  case atStart => exact ⟨0, by omega, rfl, Lib.hid (by simpa using HO.out), Below.refl _ _, Lib.hid (KeepT.refl _ _)⟩
  case round =>
    obtain ⟨k, hk, rfl, HOK, hlow, HKT⟩ := hrel
    by_cases hlt : k < n
    · have hkl : k < l.length := by have := HN.out; omega
      obtain ⟨o', c', ev, _, _, hsh⟩ := (HS.out _ hlow).shape
      obtain ⟨b, f, rfl, hb, hcells⟩ := hsh.resolve_left (fun e => by rw [e] at hkl; simp at hkl)
      injection ev with e1 e2 e3
      subst e1 e2 e3
      have d1 := hcells k hkl
      have hts : l0 ++ (l.take (k + 1)).map (fun n => (key, n)) = (l0 ++ (l.take k).map (fun n => (key, n))) ++ [(key, l[k])] := by rw [List.take_succ_eq_append_getElem hkl, List.map_append, List.append_assoc]; rfl
      obtain ⟨x, hx⟩ : ∃ x, x = l[k] := ⟨_, rfl⟩
      rw [← hx] at d1 hts
      have HTS := Lib.hid hts
      have HKB := Lib.hid (HKT.out.blk HK.out (by decide))
      clear hx hts hcells hsh
      go_wp2_with fail
      refine (pairs1_any x key bk _ HKB.out).mono ?_
      rintro e w2 ⟨rfl, g2⟩
      have b2 : Below B w w2 := hlow.trans (g2.below.mono (by have := hlow.size; omega))
      have o2 : OwnP 83 B w2 _ (l0 ++ (l.take k).map (fun n => (key, n))) := HOK.out.later g2.below
      have HK2 := Lib.hid ((HKT.out.trans (KeepT.of_below g2.below)).alloc (.cells #[.int .u64 key, .int .u64 x] 83))
      have HO2 := Lib.hid (o2.alloc (.cells #[.int .u64 key, .int .u64 x] 83))
      have HSG := Lib.hid (SegP.one (w := w2) (t := 83) key x)
      clear o2 g2 d1
      go_wp2_with (at_builtin; refine wpList_append_segP rfl _ _ 46 rfl B 83 i0 (.agg #[.int .u64 0, .int .u64 0]) Try.underlying46 hi hz0 hz1 hz2 rfl _ _ rfl HO2.out _ [(key, x)] rfl HSG.out ?qa ?qc ?_)
      case qa => have := HL.out; simp; omega
      case qc => have := b2.size; simp; omega
      intro v3 w3 hO3 hb3 hg3 _
      have HK3 := Lib.hid (HK2.out.trans (KeepT.of_grown HO2.out hg3))
      clear hg3
      go_wp2
      go_roundw
      case rel =>
        refine ⟨k + 1, by omega, by go_num, Lib.hid ?_, (b2.alloc (by have := b2.size; omega) _).trans hb3, HK3⟩
        rw [HTS.out, List.append_assoc, List.map_take]
        exact hO3
      case measure => simp [intOf]; omega
    · go_wp2
      go_ret
      refine ⟨_, rfl, ?_, hlow, HKT.out⟩
      have h := HOK.out
      rw [List.take_of_length_le (by have := HN.out; omega)] at h
      exact h
set_option maxRecDepth 100000 in
set_option maxHeartbeats 2000000 in
theorem gathBB_any (B : Nat) (v0 : Value) (l0 : List Br) (v : Value) (l : List Br) (w : World) (s : Int) (bk : Nat) (ho : OwnR 68 B w v0 l0) (hB : B ≤ w.heap.size) (hs : ∀ W, Below B w W → SegR W v l) (hk : ∀ W, Below B w W → Blk W bk #[.int .i64 s] 3) (h3 : 0 ≤ s) (hl : ∀ b ∈ l, s ≤ b.2.1 ∧ b.2.1 ≤ b.2.2 ∧ b.2.2 ≤ 1048576) (hn : l0.length + l.length ≤ 1000000000) :
    Calls Try.prog 98 #[v0, v, .func (.func 97) #[] #[.pointer (some ⟨bk, 0, none⟩)]] w fun e w' => ∃ v', e = .returned v' ∧ OwnR 68 B w' v' (l0 ++ l.map fun b => (b.1, b.2.1 - s, b.2.2 - s)) ∧ Below B w w' := by
  obtain ⟨i0, hi, hz0, hz1, hz2⟩ := infoB
  obtain ⟨o, c, rfl, hc, hcm, _⟩ := (hs w (Below.refl _ _)).shape
  obtain ⟨n, hnl⟩ : ∃ n, n = l.length := ⟨_, rfl⟩
  rw [← hnl] at hn hs hc ⊢
  have HS := Lib.hid hs
  have HN := Lib.hid hnl
  have HO := Lib.hid ho
  have HL := Lib.hid hn
  have HK := Lib.hid hk
  have HB := Lib.hid hl
  have hn' : n ≤ 1000000000 := by omega
  clear hs hnl ho hn hk hl
  go_enter Try.func98, Try.ntmps98
  go_wp2
  go_loopw [0, 11] (fun u i wr => ∃ k : Nat, k ≤ n ∧ i = .int .i64 (k : Int) ∧ Hid (OwnR 68 B wr u (l0 ++ (l.take k).map fun b => (b.1, b.2.1 - s, b.2.2 - s))) ∧ Below B w wr) (fun _ i _ => n - (intOf i).toNat)
  case atStart => exact ⟨0, by omega, rfl, Lib.hid (by simpa using HO.out), Below.refl _ _⟩
  case round =>
    obtain ⟨k, hk, rfl, HOK, hlow⟩ := hrel
    by_cases hlt : k < n
    · have hkl : k < l.length := by have := HN.out; omega
      obtain ⟨o', c', ev, _, _, hsh⟩ := (HS.out _ hlow).shape
      obtain ⟨b, f, rfl, hb, hcells⟩ := hsh.resolve_left (fun e => by rw [e] at hkl; simp at hkl)
      injection ev with e1 e2 e3
      subst e1 e2 e3
      obtain ⟨d1, d2, d3⟩ := hcells k hkl
      have hq := HB.out _ (List.getElem_mem hkl)
      have hts : l0 ++ (l.take (k + 1)).map (fun b => (b.1, b.2.1 - s, b.2.2 - s)) = (l0 ++ (l.take k).map (fun b => (b.1, b.2.1 - s, b.2.2 - s))) ++ [(l[k].1, l[k].2.1 - s, l[k].2.2 - s)] := by rw [List.take_succ_eq_append_getElem hkl, List.map_append, List.append_assoc]; rfl
      obtain ⟨x, hx⟩ : ∃ x, x = l[k] := ⟨_, rfl⟩
      rw [← hx] at d1 d2 d3 hts hq
      have HTS := Lib.hid hts
      have HKB := Lib.hid (fun W (h : Below wr.heap.size wr W) => HK.out W (hlow.trans (h.mono (by have := hlow.size; omega))))
      clear hx hts hcells hsh
      obtain ⟨a, b', c'⟩ := x
      simp only at d1 d2 d3
      obtain ⟨q1, q2, q3⟩ := hq
      simp only at q1 q2 q3
      go_wp2_with fail
      refine (part1_any a b' c' s bk _ (HKB.out _ ((Below.refl _ _).alloc (Nat.le_refl _) _)) (by omega) q2 q3 h3 q1).mono ?_
      rintro e w2 ⟨rfl, g2⟩
      have b2 : Below B w w2 := hlow.trans (((Below.refl _ _).alloc (by have := hlow.size; omega) _).trans (g2.below.mono (by have := hlow.size; simp; omega)))
      have o2 : OwnR 68 B w2 _ (l0 ++ (l.take k).map (fun b => (b.1, b.2.1 - s, b.2.2 - s))) := (HOK.out.alloc _).later g2.below
      have HO2 := Lib.hid (o2.alloc (.cells #[.int .u64 a, .int .i64 (b' - s), .int .i64 (c' - s)] 68))
      have HSG := Lib.hid (SegR.one (w := w2) (t := 68) a (b' - s) (c' - s))
      clear o2 g2 d1 d2 d3
      go_wp2_with (at_builtin; refine wpList_append_segR rfl _ _ 22 rfl B 68 i0 (.agg #[.int .u64 0, .int .i64 0, .int .i64 0]) Try.underlying22 hi hz0 hz1 hz2 rfl _ _ rfl HO2.out _ [(a, b' - s, c' - s)] rfl HSG.out ?qa ?qc ?_)
      case qa => have := HL.out; simp; omega
      case qc => have := b2.size; simp; omega
      intro v3 w3 hO3 hb3 _ _
      go_wp2
      go_roundw
      case rel =>
        refine ⟨k + 1, by omega, by go_num, Lib.hid ?_, (b2.alloc (by have := b2.size; omega) _).trans hb3⟩
        rw [HTS.out, List.append_assoc, List.map_take]
        exact hO3
      case measure => simp [intOf]; omega
    · go_wp2
      go_ret
      refine ⟨_, rfl, ?_, hlow⟩
      have h := HOK.out
      rw [List.take_of_length_le (by have := HN.out; omega)] at h
      exact h
end Go.Proofs.Ytjfnhjmdgfkgnaa

