import Derived.Test.YtmghbejbdkoehaaMg
import Derived.Shelf.RegionOpen
import Derived.OwnWalkIn
import Derived.TacticsInMore
import Derived.LoopNIn
import Derived.LoopIn
import Derived.Laws.BytesArg
import Derived.Laws.BytesString
import Derived.Laws.BitsAllLaws
import Derived.Maps.AppendAt
import Derived.Lib.AppendStr
import Derived.Laws.AppendOwnNone
/- A number's bytes, told one by one, and put behind a row; Number, Row, Text, Frame. -/
namespace Go.Proofs.Ytmghbejbdkoehaa
open Go.RowKit Go.Proofs.Kit Go.Shelf
attribute [local go_sem] Oper.semAt_some

theorem or128 (R : Nat) : bits .or .u8 ((R : Int) % 256) 128 = ((R % 128 + 128 : Nat) : Int) := by
  rw [u8_or _ _ (by omega) (by omega) (by omega) (by omega)]
  have h : ∀ a : Fin 256, a.val ||| 128 = a.val % 128 + 128 := by decide +kernel
  have := h ⟨R % 256, by omega⟩
  simp only at this
  rw [show ((R : Int) % 256).toNat = R % 256 by omega, show (128 : Int).toNat = 128 from rfl, this]
  omega
/-- What a number's bytes are told as. -/
abbrev encB (x : Int) : Array Value := #[.int .u8 x]
set_option maxRecDepth 100000 in
set_option maxHeartbeats 1000000 in
theorem septets1_in (n : Nat) (hn : 1 ≤ n) (bx N : Nat) (hN : N < 18446744073709551616) (w : World) (hbx : Blk w bx #[.int .u64 (N : Int)] 98) :
    SeqSC Fence.wide n Try.prog 89 #[.pointer (some ⟨bx, 0, none⟩)] encB (fun xs => xs = sept N) (fun _ => True) 10 w := by
  intro l J Jx W hb hY h0
  refine callsIn_of_wp Try.func89 rfl trivial ?_ rfl
  simp only [Try.ntmps89, List.size_toArray, List.length_cons, List.length_nil, Nat.reduceAdd, Nat.reduceSub, Array.replicate_succ, Array.replicate_zero, List.push_toArray, List.append_toArray, List.nil_append, List.cons_append]
  have hW := hbx.later hb
  have c0 := hW.cell 0
  simp only [List.getElem?_toArray, List.getElem?_cons_zero] at c0
  gi_wp2_with fail
  gi_loopw [3] (fun d wr => ∃ (pre : List Int) (R : Nat), d = .int .u64 (R : Int) ∧ R ≤ N ∧ J pre wr ∧ Hid (pre ++ sept R = sept N)) (fun d _ => (intOf d).toNat)
  case atStart => exact ⟨[], N, rfl, Nat.le_refl _, h0, Lib.hid (by simp)⟩
  case round =>
    obtain ⟨pre, R, rfl, hR, hJp, hpre⟩ := hrel
    have hlen : pre.length < 10 := by
      have h1 := sept_ten hN
      rw [← hpre.out, List.length_append] at h1
      have h2 := sept_pos R
      omega
    by_cases hlt : R < 128
    · have hcv : IntKind.u8.wrap (R : Int) = (R : Int) := by rw [IntKind.wrap_u8]; omega
      obtain ⟨fn, tmps, assign, body, hy, hRd⟩ := hY pre (R : Int) wr hJp hlen
      dsimp only [encB] at hy
      gi_wp2_with fail
      refine hRd.mono ?_
      have hlast : pre ++ [(R : Int)] = sept N := by rw [← hpre.out, sept_last hlt]
      have HL := Lib.hid hlast; clear hlast
      rintro e W3 (⟨rfl, hJ3⟩ | ⟨rfl, hJ3⟩)
      · gi_wp2_with fail
        go_end0
        exact ⟨⟨_, rfl⟩, .inl ⟨_, HL.out, hJ3⟩⟩
      · gi_wp2_with fail
        go_end0
        exact ⟨⟨_, rfl⟩, .inr ⟨_, trivial, hJ3⟩⟩
    · obtain ⟨x, hx⟩ : ∃ x : Int, x = ((R % 128 + 128 : Nat) : Int) := ⟨_, rfl⟩
      have hor : bits .or .u8 ((R : Int) % 256) 128 = x := by rw [hx]; exact or128 R
      obtain ⟨fn, tmps, assign, body, hy, hRd⟩ := hY pre x wr hJp hlen
      dsimp only [encB] at hy
      have HX := Lib.hid hx; clear hx
      gi_wp2_with fail
      refine hRd.mono ?_
      rintro e W3 (⟨rfl, hJ3⟩ | ⟨rfl, hJ3⟩)
      · gi_wp2_with fail
        go_roundw
        case rel =>
          refine ⟨pre ++ [x], R / 128, by go_num, by omega, hJ3, Lib.hid ?_⟩
          rw [← hpre.out, sept_more (n := R) (by omega), HX.out, List.append_assoc, List.singleton_append]
        case measure => simp [intOf]; omega
      · gi_wp2_with fail
        exact bodyPost_ret (v := .tuple #[]) (by simp [results, Try.results89]) rfl ⟨⟨_, rfl⟩, .inr ⟨_, trivial, hJ3⟩⟩

set_option maxRecDepth 100000 in
theorem septets_in (n : Nat) (N : Int) (w : World) :
    CallsIn Fence.wide n Try.prog 82 #[.int .u64 N] w fun e w' => e = .returned (.func (.func 89) #[] #[.pointer (some ⟨w.heap.size, 0, none⟩)]) ∧ w' = w.alloc (.cells #[.int .u64 N] 98) := by
  refine callsIn_wide.2 ?_
  have hmf : ∀ (fn : Fn) (first cap : Array Value) (w : World), (Instr.makeFunc fn first cap).run Try.prog w = .ok (.func fn first cap) w := fun _ _ _ _ => rfl
  go_enter Try.func82, Try.ntmps82
  go_wp2
  go_ret
  exact ⟨rfl, rfl⟩

set_option maxRecDepth 100000 in
set_option maxHeartbeats 1000000 in
theorem put_in (B N : Nat) (hN : N < 18446744073709551616) (v : Value) (l : List Int) (hl : l.length ≤ 1000000000) (w : World) (ho : Owns .u8 5 B w v l) (hB : B ≤ w.heap.size) :
    CallsIn Fence.wide 6 Try.prog 75 #[v, .int .u64 (N : Int)] w fun e w' => ∃ v', e = .returned v' ∧ Owns .u8 5 B w' v' (l ++ sept N) ∧ Below B w w' := by
  obtain ⟨i0, hi, hz0, hz1, hz2⟩ := infob
  refine callsIn_of_wp_marks Try.func75 rfl trivial ?_ rfl
  simp only [Try.ntmps75, List.size_toArray, List.length_cons, List.length_nil, Nat.reduceAdd, Nat.reduceSub, Array.replicate_succ, Array.replicate_zero, List.push_toArray, List.append_toArray, List.nil_append, List.cons_append]
  obtain ⟨o0, c0, rfl⟩ := ho.shape
  gi_wp2_with fail
  refine ⟨trivial, (septets_in _ _ _).mono ?_⟩
  rintro e w' ⟨rfl, rfl⟩
  gi_wp2_with fail
  obtain ⟨W0, hW0⟩ : ∃ W0, W0 = (w.alloc (.cells #[.slice o0 l.length c0] 59)).alloc (.cells #[.int .u64 (N : Int)] 98) := ⟨_, rfl⟩
  have B0 : Below B w W0 := by rw [hW0]; exact ((Below.refl _ _).alloc hB _).alloc (by simp; omega) _
  have s0 : W0.heap.size = w.heap.size + 2 := by rw [hW0]; simp
  have bO : Blk W0 w.heap.size #[.slice o0 l.length c0] 59 := by rw [hW0]; exact (Blk.new _ _ _).alloc _
  have bN : Blk W0 (w.heap.size + 1) #[.int .u64 (N : Int)] 98 := by rw [hW0]; have := Blk.new (w.alloc (.cells #[.slice o0 l.length c0] 59)) #[.int .u64 (N : Int)] 98; simpa using this
  have o0' : Owns .u8 5 B W0 (.slice o0 l.length c0) l := by rw [hW0]; exact (ho.alloc _).alloc _
  have hseq := septets1_in 5 (by decide) (w.heap.size + 1) N hN W0 bN
  rw [← hW0]
  clear hW0
  have S0 := Lib.hid s0; clear s0
  refine rangeSC (α := Int) rfl (by decide) (gf := 89) (lb := #[.pointer (some ⟨w.heap.size + 1, 0, none⟩)]) rfl trivial (enters_of Try.func89 (by kernel_rfl) rfl) hseq (Below.refl _ _) (fun _ => rfl)
    (fun pre W => (∃ o c, Blk W w.heap.size #[.slice o (l ++ pre).length c] 59 ∧ Owns .u8 5 B W (.slice o (l ++ pre).length c) (l ++ pre)) ∧ Below B w W)
    (fun _ _ _ => False) ?low (fun _ _ _ _ h _ => h) ⟨⟨o0, c0, by simpa using bO, by simpa using o0'⟩, B0⟩
    (fun x => { tmps := #[.slice o0 l.length c0, .int .u64 (N : Int), .pointer (some ⟨w.heap.size, 0, none⟩), undef, .slice none 0 0, .int .u8 x, .int .u64 (N : Int), .func (.func 89) #[] #[.pointer (some ⟨w.heap.size + 1, 0, none⟩)], .int .u8 x, undef, undef, undef, undef, undef], defers := [] }) ?assign ?body ?done ?stop
  case low =>
    rintro pre X X' ⟨⟨o, c, h1, h2⟩, h3⟩ hb
    exact ⟨⟨o, c, hb.blk h1, hb.own h2⟩, hb.below h3 (by have := S0.out; omega) hB⟩
  case assign =>
    intro l x W K hK
    gi_wp2
    exact hK
  case body =>
    rintro lp pre x W ⟨⟨o, c, h1, h2⟩, h3⟩ hlen hn
    obtain ⟨m, hm⟩ : ∃ m, m = l ++ pre := ⟨_, rfl⟩
    rw [← hm] at h1 h2
    have hnl : m.length ≤ 1000000010 := by rw [hm, List.length_append]; omega
    have HM := Lib.hid hm; clear hm
    have k0 := h1.cell 0
    have f0 := h1.frozen 0
    simp only [List.getElem?_toArray, List.getElem?_cons_zero] at k0
    gi_wp2_with (gi_at_builtin; refine wpListIn_append_own _ rfl _ _ 59 rfl B 5 i0 (.int .u8 0) 1 1 Try.underlying59 hi hz0 hz1 hz2 rfl (by decide) _ _ _ rfl (World.ownsRow.alloc h2 _) ⟨W.heap.size, 0, none⟩ 1 1 [.int .u8 x] rfl rfl ?qc1 ?qc2 ?qc3 ?qc4 ?qc5 ?_)
    case qc1 => exact cell_one_new _ _ _
    case qc2 => simp [Value.oneCell']
    case qc3 => unfold maxLen; omega
    case qc4 => omega
    case qc5 => have := h3.size; simp; omega
    intro v' w1 hown hgrow _
    have hO : Owns .u8 5 B w1 v' (m ++ [x]) := by
      unfold Owns
      rw [List.length_append, List.map_append]
      exact hown
    obtain ⟨o', c', rfl⟩ := hO.shape
    have hne := h2.ne_blk h1 (by decide)
    have h1' : Blk w1 w.heap.size #[.slice o m.length c] 59 := (h1.alloc _).grown hgrow hne
    have hk : Keep2C W0.heap.size W w1 := ((Keep2C.refl _ _).alloc hn.1 (.cells #[.int .u8 x] 5)).trans (.of_grown hgrow (hn.alloc _) ((hn.alloc (.cells #[.int .u8 x] 5)).own (h2.alloc (.cells #[.int .u8 x] 5))))
    have k1 := h1'.cell 0
    have f1 := h1'.frozen 0
    simp only [List.getElem?_toArray, List.getElem?_cons_zero] at k1
    have hB1 : Below B w w1 := (h3.alloc (Nat.le_trans hB h3.size) _).grown hgrow (by have := h3.size; simp; omega) (fun k hk => (World.ownsRow.lt h2 k hk).1)
    obtain ⟨m', hm'⟩ : ∃ m', m' = m ++ [x] := ⟨_, rfl⟩
    rw [← hm'] at hO ⊢
    have HM' := Lib.hid hm'; clear hm'
    have hne1 := hO.ne_blk h1' (by decide)
    gi_wp2
    have s := S0.out
    have e : l ++ (pre ++ [x]) = m' := by rw [HM'.out, HM.out, List.append_assoc]
    refine ⟨hk.setCell (by simp; omega) (by simp; omega) _, ⟨o', c', ?_, ?_⟩, hB1.setCell hB _⟩
    · rw [e]; exact h1'.set 0 _
    · rw [e]; exact ownsRow_setCell_other hO hne1 _
  case done =>
    rintro D ys W rfl ⟨⟨o, c, h1, h2⟩, h3⟩ hD hK
    have k0 := h1.cell 0
    simp only [List.getElem?_toArray, List.getElem?_cons_zero] at k0
    gi_wp2
    refine ⟨by simp, .inl ⟨_, _, rfl, run_takeDeferred hK, ?_⟩⟩
    refine ⟨_, results_tmp rfl _ _ _, _, rfl, ?_, h3.trans (below_putC W _ (by have := S0.out; omega))⟩
    have := ownsRow_putObj h2 (.deferred none) hK rfl
    simpa [Owns] using this
  case stop =>
    rintro D c pre W _ h
    exact h.elim
theorem put_any (B N : Nat) (hN : N < 18446744073709551616) (v : Value) (l : List Int) (hl : l.length ≤ 1000000000) (w : World) (ho : Owns .u8 5 B w v l) (hB : B ≤ w.heap.size) :
    Calls Try.prog 75 #[v, .int .u64 (N : Int)] w fun e w' => ∃ v', e = .returned v' ∧ Owns .u8 5 B w' v' (l ++ sept N) ∧ Below B w w' := (callsIn_wide (n := 6)).1 (put_in B N hN v l hl w ho hB)

end Go.Proofs.Ytmghbejbdkoehaa


/- Number, Row, Text and Frame: what they write. -/
namespace Go.Proofs.Ytmghbejbdkoehaa
open Go.RowKit Go.Proofs.Kit Go.Shelf

set_option maxRecDepth 100000 in
set_option maxHeartbeats 1000000 in
theorem cnumber_any (N : Nat) (hN : N < 18446744073709551616) (w : World) :
    Calls Try.prog 54 #[.int .u64 (N : Int)] w fun e w' => ∃ v', e = .returned v' ∧ Owns .u8 5 w.heap.size w' v' (sept N) ∧ Below w.heap.size w w' := by
  go_enter Try.func54, Try.ntmps54
  go_wp2_with fail
  refine (put_any w.heap.size N hN _ [] (by simp) _ (Owns.nil _ _ _ _) (Nat.le_refl _)).mono ?_
  rintro e w' ⟨v', rfl, ho, hb⟩
  go_wp2
  go_ret
  exact ⟨v', rfl, by simpa using ho, hb⟩

/-- A row's bytes. -/
def rowB (l : List Int) : List Int := l.flatMap fun x => sept x.toNat
theorem rowB_snoc (l : List Int) (x : Int) : rowB (l ++ [x]) = rowB l ++ sept x.toNat := by simp [rowB]
theorem rowB_len (l : List Int) (h : ∀ x ∈ l, 0 ≤ x ∧ x < 18446744073709551616) : (rowB l).length ≤ 10 * l.length := by
  induction l with
  | nil => simp [rowB]
  | cons x t ih =>
    have := ih (fun y hy => h y (by simp [hy]))
    have h2 := sept_ten (n := x.toNat) (by have := h x (by simp); omega)
    simp [rowB] at this ⊢
    omega
def bytesRow (l : List Int) : List Int := sept l.length ++ rowB l
/-- A string's bytes. -/
def strB (s : ByteArray) : List Int := s.data.toList.map fun b => (b.toNat : Int)
theorem strB_len (s : ByteArray) : (strB s).length = s.size := by rw [strB, List.length_map, Array.length_toList]; rfl
theorem strB_byt (s : ByteArray) : Byt (strB s) := by
  intro x hx
  obtain ⟨b, _, rfl⟩ := List.mem_map.1 hx
  have := b.toNat_lt
  omega
theorem strB_cells (s : ByteArray) : Lib.strCells s = (strB s).map (Value.int .u8) := by simp [Lib.strCells, strB]
def bytesText (l : List Int) : List Int := sept l.length ++ l
set_option maxHeartbeats 1000000 in
set_option maxRecDepth 100000 in
theorem ctext_any (s : ByteArray) (hs : s.size ≤ 4000) (w : World) :
    Calls Try.prog 55 #[.string s] w fun e w' => ∃ v', e = .returned (.tuple #[v', .int .i64 0]) ∧ Owns .u8 5 w.heap.size w' v' (bytesText (strB s)) ∧ Below w.heap.size w w' := by
  obtain ⟨i0, hi, hz0, hz1, hz2⟩ := infob
  go_enter Try.func55, Try.ntmps55
  go_wp2_with fail
  refine (cnumber_any s.size (by omega) _).mono ?_
  rintro e w' ⟨v', rfl, ho, hb⟩
  have hl := sept_ten (n := s.size) (by omega)
  go_wp2_with (at_builtin; refine Lib.wpList_append_own_string _ rfl _ _ 59 9 rfl w.heap.size 5 i0 Try.underlying59 Try.underlying9 hi hz0 hz1 hz2 _ _ _ rfl ho s rfl ?qc1 ?qc2 ?qc3 ?_)
  case qc1 => unfold maxLen; omega
  case qc2 => omega
  case qc3 => exact hb.size
  intro v2 w2 hown hgrow _
  go_wp2
  go_ret2
  refine ⟨v2, rfl, ?_, hb.grown hgrow hb.size (fun k hk => (ho.lt k hk).1)⟩
  unfold bytesText Owns
  rw [strB_len, List.length_append, strB_len, List.map_append, ← strB_cells]
  exact hown
set_option maxRecDepth 100000 in
set_option maxHeartbeats 1000000 in
theorem text_long (s : ByteArray) (hs : 4000 < s.size) (h63 : s.size ≤ 9223372036854775807) (w : World) :
    Calls Try.prog 55 #[.string s] w fun e w' => e = .returned (.tuple #[.slice none 0 0, .int .i64 3]) ∧ w' = w := by
  go_enter Try.func55, Try.ntmps55
  go_wp2
  go_ret2
  exact ⟨rfl, rfl⟩

/-- The lowest bytes of a number. -/
def lowB : Nat → Int → List Int
  | 0, _ => []
  | m + 1, s => s % 256 :: lowB m (s / 256)
/-- The four bytes of a sum. -/
def four (n : Int) : List Int := lowB 4 n
theorem lowB_len : ∀ (m : Nat) (s : Int), (lowB m s).length = m
  | 0, _ => rfl
  | m + 1, s => by simp [lowB, lowB_len m]
theorem lowB_byt : ∀ (m : Nat) (s : Int), Byt (lowB m s)
  | 0, _ => by simp [lowB, Byt]
  | m + 1, s => by
    intro x hx
    rcases List.mem_cons.1 hx with rfl | hx
    · omega
    · exact lowB_byt m _ x hx
def bytesFrame (l : List Int) : List Int := sept l.length ++ (l ++ four (sumB l))
theorem sumB_bd (l : List Int) : 0 ≤ sumB l ∧ sumB l < 4294967296 := by
  rcases List.eq_nil_or_concat l with rfl | ⟨t, x, rfl⟩
  · simp [sumB]
  · rw [List.concat_eq_append, sumB_snoc]; omega

end Go.Proofs.Ytmghbejbdkoehaa

