import Derived.Test.YtmghbejbdkoehaaJ3
import Derived.Test.YtmghbejbdkoehaaMa
import Derived.Test.YtmghbejbdkoehaaMc
import Derived.Shelf.RegionOpen
import Derived.OwnWalkIn
import Derived.TacticsInMore
import Derived.LoopNIn
import Derived.LoopIn
import Derived.WalkMore
import Derived.Laws.BitsAllLaws
import Derived.Deep.LoopGhost
import Derived.Deep.DeepCutAuto
import Derived.Sort.BigQuietIn
import Derived.RangeFuncCalls
import Derived.Test.YtmghbejbdkoehaaMb
/- table.Hash; a text's slots, told one by one. -/
namespace Go.Proofs.Kit
/-- One byte more. -/
def hstep (h : Nat) (b : UInt8) : Nat := (h ^^^ b.toNat) * 1099511628211 % 18446744073709551616
/-- Where it begins. -/
def hb0 : Nat := 14695981039346656037
theorem hb0_cast : (14695981039346656037 : Int) = (hb0 : Int) := by unfold hb0; simp
/-- A text's hash. -/
def hsh (s : ByteArray) : Nat := s.data.toList.foldl hstep hb0
theorem hstep_lt (h : Nat) (b : UInt8) : hstep h b < 18446744073709551616 := Nat.mod_lt _ (by decide)
theorem hfold_lt (l : List UInt8) : l.foldl hstep hb0 < 18446744073709551616 := by
  have key : ∀ (l : List UInt8) (h : Nat), h < 18446744073709551616 → l.foldl hstep h < 18446744073709551616 := by
    intro l
    induction l with
    | nil => intro h hh; exact hh
    | cons b l ih => intro h _; exact ih _ (hstep_lt _ _)
  exact key l _ (by decide)
theorem hsh_lt (s : ByteArray) : hsh s < 18446744073709551616 := hfold_lt _
theorem take_byte (s : ByteArray) (k : Nat) (h : k < s.size) : s.data.toList.take (k + 1) = s.data.toList.take k ++ [s[k]] := by
  rw [List.take_succ_eq_append_getElem (by simpa using h)]; rfl
theorem hash_wrap (h x : Nat) (h64 : h < 18446744073709551616) (b : UInt8) (hx : x = b.toNat) : IntKind.u64.wrap (bits .xor .u64 (h : Int) (x : Int) * 1099511628211) = ((hstep h b : Nat) : Int) := by
  have hb : b.toNat < 256 := b.toNat_lt
  subst hx
  rw [u64_xor_nat _ _ h64 (by omega), IntKind.wrap_u64]
  unfold hstep
  generalize h ^^^ b.toNat = x
  rw [Int.natCast_emod, Int.natCast_mul]
  simp
end Go.Proofs.Kit
namespace Go.Proofs.Ytmghbejbdkoehaa
open Go.RowKit Go.Proofs.Kit Go.Shelf
attribute [local go_sem] Oper.semAt_some

set_option maxRecDepth 100000 in
set_option maxHeartbeats 1000000 in
theorem hash_any (s : ByteArray) (hs : s.size ≤ 9223372036854775807) (w : World) :
    Calls Try.prog 95 #[.string s] w fun e w' => e = .returned (.int .u64 (hsh s : Nat)) ∧ w' = w := by
  go_enter Try.func95, Try.ntmps95
  go_wp2
  go_loop [3, 4, 7] (fun h _ i => ∃ k : Nat, k ≤ s.size ∧ i = .int .i64 k ∧ h = .int .u64 (((s.data.toList.take k).foldl hstep hb0 : Nat) : Int)) (fun _ _ i => s.size - (intOf i).toNat)
  case atStart => exact ⟨0, Nat.zero_le _, rfl, by rw [hb0_cast]; simp⟩
  case round =>
    obtain ⟨k, hk, rfl, rfl⟩ := hrel
    by_cases hlt : k < s.size
    · have hst : (s.data.toList.take (k + 1)).foldl hstep hb0 = hstep ((s.data.toList.take k).foldl hstep hb0) s[k] := by rw [take_byte s k hlt, List.foldl_append, List.foldl_cons, List.foldl_nil]
      have hh := hfold_lt (s.data.toList.take k)
      obtain ⟨h, hh'⟩ : ∃ h, h = (s.data.toList.take k).foldl hstep hb0 := ⟨_, rfl⟩
      rw [← hh'] at hst hh ⊢
      clear hh'
      have HST := Lib.hid hst; clear hst
      have hcv : IntKind.u64.wrap (s[k].toNat : Int) = (s[k].toNat : Int) := by rw [IntKind.wrap_u64]; have := s[k].toNat_lt; omega
      go_wp2
      go_round
      case rel =>
        refine ⟨k + 1, by omega, by go_num, ?_⟩
        rw [hash_wrap h _ hh s[k] rfl, HST.out]
      case measure => simp [intOf]; omega
    · go_wp2
      go_ret
      rw [List.take_of_length_le (by simp; omega)]
      exact ⟨rfl, rfl⟩

/-- A place among m. -/
abbrev Pl (m : Nat) : Type := { p : Nat // p < m }
/-- What a place is told as. -/
abbrev encP {m : Nat} (x : Pl m) : Array Value := #[.int .i64 (x.1 : Int)]
/-- The first of a text's places. -/
def FirstP (h : Nat) {m : Nat} (xs : List (Pl m)) : Prop := xs.map (·.1) = (List.range xs.length).map (prb h m)
theorem FirstP.snoc {h m : Nat} {xs : List (Pl m)} (k : FirstP h xs) (x : Pl m) (hx : x.1 = prb h m xs.length) : FirstP h (xs ++ [x]) := by
  unfold FirstP at *
  simp [List.range_succ, k, hx]
set_option maxRecDepth 100000 in
set_option maxHeartbeats 1000000 in
theorem slots_any (vT vS : Value) (s : ByteArray) (w : World) :
    Calls Try.prog 87 #[.agg #[vT, vS], .string s] w fun e w' => e = .returned (.func (.func 94) #[] #[.pointer (some ⟨w.heap.size, 0, none⟩), .pointer (some ⟨w.heap.size + 1, 0, none⟩)]) ∧
      w' = (w.alloc (.cells #[vT, vS] 113)).alloc (.cells #[.string s] 9) := by
  have hmf : ∀ (fn : Fn) (first cap : Array Value) (w : World), (Instr.makeFunc fn first cap).run Try.prog w = .ok (.func fn first cap) w := fun _ _ _ _ => rfl
  go_enter Try.func87, Try.ntmps87
  go_wp2
  go_ret
  exact ⟨rfl, rfl⟩
set_option maxRecDepth 100000 in
set_option maxHeartbeats 2000000 in
theorem slots1_in (n : Nat) (hn : 1 ≤ n) (bx by' m : Nat) (hm0 : 0 < m) (hm : m ≤ 1000000000) (vT : Value) (o : Option Addr) (c : Nat) (s : ByteArray) (hs : s.size ≤ 9223372036854775807) (w : World)
    (hx : Blk w bx #[vT, .slice o m c] 113) (hy : Blk w by' #[.string s] 9) :
    SeqS Fence.wide n Try.prog 94 #[.pointer (some ⟨bx, 0, none⟩), .pointer (some ⟨by', 0, none⟩)] (encP (m := m)) (fun xs => FirstP (hsh s) xs ∧ xs.length = m) (fun xs => FirstP (hsh s) xs ∧ xs.length ≤ m) m w := by
  intro l J Jx W hb hY h0
  have HY := Lib.hid hY
  have H0 := Lib.hid h0
  clear hY h0
  have c0 := (hx.later hb).cell 0
  have c1 := (hx.later hb).cell 1
  have c2 := (hy.later hb).cell 0
  simp only [List.getElem?_toArray, List.getElem?_cons_zero, List.getElem?_cons_succ] at c0 c1 c2
  clear hx hy hb
  obtain ⟨h, hh⟩ : ∃ h, h = hsh s := ⟨_, rfl⟩
  have hlt := hsh_lt s
  have hcall := hash_any s hs
  rw [← hh] at hlt hcall ⊢
  clear hh
  obtain ⟨f, hf⟩ : ∃ f, f = h % m := ⟨_, rfl⟩
  have hfm : f < m := by rw [hf]; exact Nat.mod_lt _ hm0
  have q1 : IntKind.u64.wrap (m : Int) = (m : Int) := by rw [IntKind.wrap_u64]; omega
  have q2 : IntKind.i64.wrap ((h : Int) % (m : Int)) = (f : Int) := by rw [← Int.natCast_emod, ← hf, IntKind.wrap_i64]; omega
  have q4 : ((m : Int) == 0) = false := by simp; omega
  have HF := Lib.hid hf
  have HL := Lib.hid hlt
  clear hf hlt
  refine callsIn_wide.2 ?_
  go_enter Try.func94, Try.ntmps94
  go_wp2_with (go_at_call 95; refine (hcall _).mono ?_; rintro e w' ⟨rfl, rfl⟩)
  clear c0 c1 c2 hcall
  go_loopw [6, 18] (fun _ i wr => ∃ pre : List (Pl m), pre.length ≤ m ∧ i = .int .i64 (pre.length : Int) ∧ Hid (FirstP h pre) ∧ Hid (J pre wr)) (fun _ i _ => m - (intOf i).toNat)
  case atStart => exact ⟨[], Nat.zero_le _, rfl, Lib.hid rfl, H0⟩
  case round =>
    obtain ⟨pre, hle, rfl, hF, hJ⟩ := hrel
    obtain ⟨k, hk⟩ : ∃ k, k = pre.length := ⟨_, rfl⟩
    rw [← hk] at hle ⊢
    have HK := Lib.hid hk
    clear hk
    by_cases hlt : k < m
    · obtain ⟨p, hp⟩ : ∃ p, p = prb h m k := ⟨_, rfl⟩
      have hpm : p < m := by rw [hp]; exact prb_lt hm0 _ _
      obtain ⟨x, hx⟩ : ∃ x : Pl m, x.1 = p := ⟨⟨p, hpm⟩, rfl⟩
      obtain ⟨fn, tmps, assign, body, hy, hRd⟩ := HY.out pre x wr hJ.out (by rw [← HK.out]; exact hlt)
      dsimp only [encP] at hy
      rw [hx] at hy
      have r1 : ((f : Int) + (k : Int)) % (m : Int) = (p : Int) := by
        rw [hp, HF.out]
        unfold prb
        rw [← Int.natCast_add, ← Int.natCast_emod, Nat.mod_add_mod]
      have hxk : x.1 = prb h m pre.length := by rw [hx, hp, HK.out]
      have HX := Lib.hid hxk
      clear hxk hx hp
      go_upto_region 5 with (fail)
      refine (wpIn_wide (n := n)).1 ?_
      gi_wp2_with fail
      refine hRd.mono ?_
      rintro e W3 (⟨rfl, hJ3⟩ | ⟨rfl, hJ3⟩)
      · gi_wp2_with fail
        go_wp2
        go_roundw
        case rel =>
          refine ⟨pre ++ [x], by rw [List.length_append, List.length_singleton, ← HK.out]; omega, ?_, Lib.hid (hF.out.snoc x HX.out), Lib.hid hJ3⟩
          rw [List.length_append, List.length_singleton, ← HK.out]
          rfl
        case measure => simp [intOf]; omega
      · gi_wp2_with fail
        go_wp2
        exact bodyPost_ret (v := .tuple #[]) (by simp [results, Try.results94]) rfl ⟨⟨_, rfl⟩, .inr ⟨_, ⟨hF.out.snoc x HX.out, by rw [List.length_append, List.length_singleton, ← HK.out]; omega⟩, hJ3⟩⟩
    · go_wp2
      go_end0
      exact ⟨⟨_, rfl⟩, .inl ⟨_, ⟨hF.out, by rw [← HK.out]; omega⟩, hJ.out⟩⟩
end Go.Proofs.Ytmghbejbdkoehaa


/- A region that draws its order, inside a round of a range over a function: the quiet walk there. No program is named here. -/
namespace Go.Proofs.Kit
open Go

section
variable {F : Fence} {n : Nat} {P : Program} {ops : Array Oper} {Q : Exit → Act → World → Prop} {md : Region.Mode}
/-- No operation defers a call. -/
def noDefer (l : List Oper) : Bool := l.all fun o => match o.op with | .defer _ => false | _ => true
theorem noDefer_of {l : List Oper} (h : noDefer l = true) {o : Oper} (ho : o ∈ l) (c : Call) : o.op ≠ .defer c := by
  intro e
  have := List.all_eq_true.1 h o ho
  rw [e] at this
  cases this
theorem operIn_inRound {o : Oper} {a : Act} {w : World} {K : Act → World → Prop} (l : Nat) (hd : ∀ c, o.op ≠ .defer c) (h : o.wpIn F n P a w K Q) : o.wpIn (F.inRound l) n P a w K Q := by
  unfold Oper.wpIn at *
  refine ⟨h.1, ?_⟩
  have h2 := h.2
  rw [Oper.semAt_eq _ _ _ hd] at h2 ⊢
  revert h2
  generalize (execOp a.eval o).run P w = r
  intro h2
  cases r with
  | ok x w' => cases x <;> exact h2
  | halt x w' => cases x <;> exact h2
theorem wpOpIn_inRound (l : Nat) (hd : ∀ o ∈ ops, ∀ c, o.op ≠ .defer c) {i : Nat} {K K' : Act → World → Prop} (hK : ∀ a w, K a w → K' a w) {a : Act} {w : World} (h : wpOpIn F n P ops Q i K a w) : wpOpIn (F.inRound l) n P ops Q i K' a w := by
  have h := wpOpIn_mono hK h
  unfold wpOpIn at *
  cases ho : ops[i]? with
  | none => simpa [ho] using h
  | some o =>
    simp only [ho] at h ⊢
    split
    · rename_i hw
      simp only [hw, if_true] at h
      exact operIn_inRound l (hd o (Array.mem_of_getElem? ho)) h
    · rename_i hw
      simp only [hw] at h
      exact h
theorem wpAnyIn_inRound (l : Nat) (hd : ∀ o ∈ ops, ∀ c, o.op ≠ .defer c) : ∀ (fuel : Nat) (listed : Array Bool) (a : Act) (w : World), wpAnyIn F n P md ops Q fuel listed a w → wpAnyIn (F.inRound l) n P md ops Q fuel listed a w
  | 0, _, _, _, h => h
  | fuel + 1, _, _, _, h => ⟨h.1, fun i hi => wpOpIn_inRound l hd (fun a w => wpAnyIn_inRound l hd fuel _ a w) (h.2 i hi)⟩
/-- One walk of the text's order serves every order, inside a round. -/
theorem wpIn_region_quiet_round {id r : Nat} {a : Act} {w : World} {l : List Oper} (hro : F.round = none) (hm : P.follows .mixedOrders = true) (hB : Region.lexB .any l.toArray = true) (hd : noDefer l = true)
    (h : wpQuietIn F n P l.toArray (fun w' => ∃ n, w' = w.drewN n) (fun a' => ∀ w', (∃ n, w' = w.drewN n) → Q .normal a' w') l a) : (Code.region id l.toArray true).wpIn (F.inRound r) n P Q a w := by
  simp only [Region.lexB, Bool.and_eq_true] at hB
  refine wpIn_region_any hm (wpAnyIn_inRound r (fun o ho c => noDefer_of hd (by simpa using ho) c) _ _ _ _ ?_)
  refine wpAnyIn_of_quiet (C := fun w' => ∃ n, w' = w.drewN n) (Q := fun a' => ∀ w', (∃ n, w' = w.drewN n) → Q .normal a' w') hro (fun _ w' hw' h => h w' hw') _ _ _ _ ⟨1, rfl⟩ ?_
  have := wpAnyQIn_lex (F := F) (n := n) (C := fun w' => ∃ n, w' = w.drewN n) (md := .any) hB.1 l 0 (Array.replicate l.toArray.size false) a (by simp) (by simpa using hB.2) h
  simpa using this
end
end Go.Proofs.Kit


/- dict.tables: the tables of a dictionary, one behind the other. -/
namespace Go.Proofs.Ytmghbejbdkoehaa
open Go.RowKit Go.Proofs.Kit Go.Shelf

set_option maxRecDepth 100000 in
set_option maxHeartbeats 1000000 in
theorem tables_any (a b : Nat → Value) (w : World) :
    Calls Try.prog 40 #[.agg (dcs a b)] w fun e w' => e = .returned (.func (.func 63) #[] #[.pointer (some ⟨w.heap.size, 0, none⟩)]) ∧ w' = w.alloc (.cells (dcs a b) 28) := by
  have hmf : ∀ (fn : Fn) (first cap : Array Value) (w : World), (Instr.makeFunc fn first cap).run Try.prog w = .ok (.func fn first cap) w := fun _ _ _ _ => rfl
  go_enter Try.func40, Try.ntmps40
  go_wp2
  go_ret
  exact ⟨rfl, rfl⟩
theorem infoTable : ∃ i, Try.prog.info? 25 = some i ∧ i.size = 2 := by
  have h : (Try.prog.info? 25).map (·.size) = some 2 := by kernel_rfl
  cases hi : Try.prog.info? 25 with
  | none => rw [hi] at h; cases h
  | some i => exact ⟨i, rfl, by rw [hi] at h; simpa using h⟩
/-- A kind's table out of all. -/
theorem index_kinds (a b : Nat → Value) (k : Nat) (hk : k < 5) (w : World) : (Instr.index 26 (.agg #[a 0, b 0, a 1, b 1, a 2, b 2, a 3, b 3, a 4, b 4]) (.int .i64 (k : Int))).run Try.prog w = .ok (.agg #[a k, b k]) w := by
  obtain ⟨i, hi, hs⟩ := infoTable
  rw [run_index_struct _ k w Try.underlying26 Try.underlying25 hi hs hk]
  obtain rfl | rfl | rfl | rfl | rfl := five hk
  all_goals rfl
theorem range_snoc (k : Nat) : List.range k ++ [k] = List.range (k + 1) := List.range_succ.symm
/-- What a round is told: a kind, and its table. -/
abbrev encT (a b : Nat → Value) (k : Nat) : Array Value := #[.int .i64 (k : Int), .agg #[a k, b k]]
set_option maxRecDepth 100000 in
set_option maxHeartbeats 4000000 in
theorem tables1_in (n : Nat) (hn : 1 ≤ n) (bx : Nat) (a b : Nat → Value) (ha : ∀ k, ∃ o m c, a k = .slice o m c) (hb : ∀ k, ∃ o m c, b k = .slice o m c) :
    SeqH Fence.wide n Try.prog 63 #[.pointer (some ⟨bx, 0, none⟩)] (encT a b) (fun xs => xs = List.range 5) (fun pre => ∃ j, j < 5 ∧ pre = List.range (j + 1)) 5 (fun X => Blk X bx (dcs a b) 28) (fun pre k => pre = List.range k ∧ k < 5) := by
  intro l J Jx W hJK hJB hY h0
  have hK0 := hJK _ _ h0
  have hix := index_kinds a b
  have c := hK0.cell
  have c0 := c 0
  have c1 := c 1
  have c2 := c 2
  have c3 := c 3
  have c4 := c 4
  have c5 := c 5
  have c6 := c 6
  have c7 := c 7
  have c8 := c 8
  have c9 := c 9
  simp only [dcs, List.getElem?_toArray, List.getElem?_cons_zero, List.getElem?_cons_succ] at c0 c1 c2 c3 c4 c5 c6 c7 c8 c9
  have HJK := Lib.hid hJK
  have HJB := Lib.hid hJB
  have HY := Lib.hid hY
  have HIX := Lib.hid hix
  clear hJK hJB hY hK0 c hix
  refine callsIn_wide.2 ?_
  go_enter Try.func63, Try.ntmps63
  go_wp2
  clear c0 c1 c2 c3 c4 c5 c6 c7 c8 c9
  go_loopw [3, 4, 7] (fun _ _ i wr => ∃ k : Nat, k ≤ 5 ∧ i = .int .i64 (k : Int) ∧ Hid (J (List.range k) wr)) (fun _ _ i _ => 5 - (intOf i).toNat)
  case atStart => exact ⟨0, Nat.zero_le _, rfl, Lib.hid h0⟩
  case round =>
    obtain ⟨k, hk, rfl, HJ⟩ := hrel
    by_cases hlt : k < 5
    · have hx := HIX.out k hlt
      have hy := HY.out (List.range k) k (wr.alloc (.cells #[a k, b k] 25)) (HJB.out _ _ _ HJ.out (Gr.alloc _ _).below) (by rw [List.length_range]; exact hlt) ⟨rfl, hlt⟩
      obtain ⟨oa, ma, ca, ea⟩ := ha k
      obtain ⟨ob, mb, cb, eb⟩ := hb k
      dsimp only [encT] at hy
      rw [ea, eb] at hx hy
      obtain ⟨fn, tmps, assign, body, hy, hRd⟩ := hy
      clear ha hb h0
      go_upto_region 3 with (fail)
      refine (wpIn_wide (n := n)).1 ?_
      gi_wp2_with fail
      refine hRd.mono ?_
      rintro e W3 (⟨rfl, hJ3⟩ | ⟨rfl, hJ3⟩)
      · rw [range_snoc] at hJ3
        gi_wp2_with fail
        go_wp2
        go_roundw
        case rel => exact ⟨k + 1, by omega, by go_num, Lib.hid hJ3⟩
        case measure => simp [intOf]; omega
      · gi_wp2_with fail
        go_wp2
        exact bodyPost_ret (v := .tuple #[]) (by simp [results, Try.results63]) rfl ⟨⟨_, rfl⟩, .inr ⟨_, ⟨k, hlt, range_snoc k⟩, hJ3⟩⟩
    · go_wp2
      go_end0
      obtain rfl : k = 5 := by omega
      exact ⟨⟨_, rfl⟩, .inl ⟨_, rfl, HJ.out⟩⟩
end Go.Proofs.Ytmghbejbdkoehaa

