/- table.Hash; a text's slots, told one by one. -/
import Derived.Test.YtfnlegnieilcbaaJ3
import Derived.Test.YtfnlegnieilcbaaJ0
import Derived.Test.YtfnlegnieilcbaaRngT
import Derived.Shelf.RegionOpen
import Derived.OwnWalkIn
import Derived.TacticsInMore
import Derived.LoopNIn
import Derived.LoopIn
import Derived.WalkMore
import Derived.Laws.BitsAllLaws
import Derived.Deep.LoopGhost
import Derived.Deep.DeepCutAuto
namespace Go.Proofs.Kit
/-- One byte more. -/
def hstep (h : Nat) (b : UInt8) : Nat := (h ^^^ b.toNat) * 1099511628211 % 18446744073709551616
/-- Where it begins. -/
def hb0 : Nat := 14695981039346656037
theorem hb0_cast : (14695981039346656037 : Int) = (hb0 : Int) := by unfold hb0; simp
/-- A text's hash. -/
def hsh (s : ByteArray) : Nat := s.data.toList.foldl hstep hb0
theorem hstep_lt (h : Nat) (b : UInt8) : hstep h b < 18446744073709551616 := Nat.mod_lt _ (by decide)
theorem hfold_lt (l : List UInt8) : l.foldl hstep hb0 < 18446744073709551616 := by
  have key : ∀ (l : List UInt8) (h : Nat), h < 18446744073709551616 → l.foldl hstep h < 18446744073709551616 := by
    intro l
    induction l with
    | nil => intro h hh; exact hh
    | cons b l ih => intro h _; exact ih _ (hstep_lt _ _)
  exact key l _ (by decide)
theorem hsh_lt (s : ByteArray) : hsh s < 18446744073709551616 := hfold_lt _
theorem take_byte (s : ByteArray) (k : Nat) (h : k < s.size) : s.data.toList.take (k + 1) = s.data.toList.take k ++ [s[k]] := by
  rw [List.take_succ_eq_append_getElem (by simpa using h)]; rfl
theorem hash_wrap (h x : Nat) (h64 : h < 18446744073709551616) (b : UInt8) (hx : x = b.toNat) : IntKind.u64.wrap (bits .xor .u64 (h : Int) (x : Int) * 1099511628211) = ((hstep h b : Nat) : Int) := by
  have hb : b.toNat < 256 := b.toNat_lt
  subst hx
  rw [u64_xor_nat _ _ h64 (by omega), IntKind.wrap_u64]
  unfold hstep
  generalize h ^^^ b.toNat = x
  rw [Int.natCast_emod, Int.natCast_mul]
  simp
end Go.Proofs.Kit
namespace Go.Proofs.Ytfnlegnieilcbaa
open Go.RowKit Go.Proofs.Kit Go.Shelf
attribute [local go_sem] Oper.semAt_some

set_option maxHeartbeats 1000000 in
theorem hash_any (s : ByteArray) (hs : s.size ≤ 9223372036854775807) (w : World) :
    Calls Try.prog 16 #[.string s] w fun e w' => e = .returned (.int .u64 (hsh s : Nat)) ∧ w' = w := by
  go_enter Try.func16, Try.ntmps16
  go_wp2
  go_loop [3, 4, 7] (fun h _ i => ∃ k : Nat, k ≤ s.size ∧ i = .int .i64 k ∧ h = .int .u64 (((s.data.toList.take k).foldl hstep hb0 : Nat) : Int)) (fun _ _ i => s.size - (intOf i).toNat)
  case atStart => exact ⟨0, Nat.zero_le _, rfl, by rw [hb0_cast]; simp⟩
  case round =>
    obtain ⟨k, hk, rfl, rfl⟩ := hrel
    by_cases hlt : k < s.size
    · have hst : (s.data.toList.take (k + 1)).foldl hstep hb0 = hstep ((s.data.toList.take k).foldl hstep hb0) s[k] := by rw [take_byte s k hlt, List.foldl_append, List.foldl_cons, List.foldl_nil]
      have hh := hfold_lt (s.data.toList.take k)
      obtain ⟨h, hh'⟩ : ∃ h, h = (s.data.toList.take k).foldl hstep hb0 := ⟨_, rfl⟩
      rw [← hh'] at hst hh ⊢
      clear hh'
      have HST := Lib.hid hst; clear hst
      have hcv : IntKind.u64.wrap (s[k].toNat : Int) = (s[k].toNat : Int) := by rw [IntKind.wrap_u64]; have := s[k].toNat_lt; omega
      go_wp2
      go_round
      case rel =>
        refine ⟨k + 1, by omega, by go_num, ?_⟩
        rw [hash_wrap h _ hh s[k] rfl, HST.out]
      case measure => simp [intOf]; omega
    · go_wp2
      go_ret
      rw [List.take_of_length_le (by simp; omega)]
      exact ⟨rfl, rfl⟩

/-- A place among m. -/
abbrev Pl (m : Nat) : Type := { p : Nat // p < m }
/-- What a place is told as. -/
abbrev encP {m : Nat} (x : Pl m) : Array Value := #[.int .i64 (x.1 : Int)]
/-- The first of a text's places. -/
def FirstP (h : Nat) {m : Nat} (xs : List (Pl m)) : Prop := xs.map (·.1) = (List.range xs.length).map (prb h m)
theorem FirstP.snoc {h m : Nat} {xs : List (Pl m)} (k : FirstP h xs) (x : Pl m) (hx : x.1 = prb h m xs.length) : FirstP h (xs ++ [x]) := by
  unfold FirstP at *
  simp [List.range_succ, k, hx]
set_option maxHeartbeats 1000000 in
theorem slots_any (vT vS : Value) (s : ByteArray) (w : World) :
    Calls Try.prog 43 #[.agg #[vT, vS], .string s] w fun e w' => e = .returned (.func (.func 45) #[] #[.pointer (some ⟨w.heap.size, 0, none⟩), .pointer (some ⟨w.heap.size + 1, 0, none⟩)]) ∧
      w' = (w.alloc (.cells #[vT, vS] 62)).alloc (.cells #[.string s] 9) := by
  have hmf : ∀ (fn : Fn) (first cap : Array Value) (w : World), (Instr.makeFunc fn first cap).run Try.prog w = .ok (.func fn first cap) w := fun _ _ _ _ => rfl
  go_enter Try.func43, Try.ntmps43
  go_wp2
  go_ret
  exact ⟨rfl, rfl⟩
set_option maxRecDepth 100000 in
set_option maxHeartbeats 2000000 in
theorem slots1_in (n : Nat) (hn : 1 ≤ n) (bx by' m : Nat) (hm0 : 0 < m) (hm : m ≤ 1000000000) (vT : Value) (o : Option Addr) (c : Nat) (s : ByteArray) (hs : s.size ≤ 9223372036854775807) (w : World)
    (hx : Blk w bx #[vT, .slice o m c] 62) (hy : Blk w by' #[.string s] 9) :
    SeqS Fence.wide n Try.prog 45 #[.pointer (some ⟨bx, 0, none⟩), .pointer (some ⟨by', 0, none⟩)] (encP (m := m)) (fun xs => FirstP (hsh s) xs ∧ xs.length = m) (fun xs => FirstP (hsh s) xs ∧ xs.length ≤ m) m w := by
  intro l J Jx W hb hY h0
  have HY := Lib.hid hY
  have H0 := Lib.hid h0
  clear hY h0
  have c0 := (hx.later hb).cell 0
  have c1 := (hx.later hb).cell 1
  have c2 := (hy.later hb).cell 0
  simp only [List.getElem?_toArray, List.getElem?_cons_zero, List.getElem?_cons_succ] at c0 c1 c2
  clear hx hy hb
  obtain ⟨h, hh⟩ : ∃ h, h = hsh s := ⟨_, rfl⟩
  have hlt := hsh_lt s
  have hcall := hash_any s hs
  rw [← hh] at hlt hcall ⊢
  clear hh
  obtain ⟨f, hf⟩ : ∃ f, f = h % m := ⟨_, rfl⟩
  have hfm : f < m := by rw [hf]; exact Nat.mod_lt _ hm0
  have q1 : IntKind.u64.wrap (m : Int) = (m : Int) := by rw [IntKind.wrap_u64]; omega
  have q2 : IntKind.i64.wrap ((h : Int) % (m : Int)) = (f : Int) := by rw [← Int.natCast_emod, ← hf, IntKind.wrap_i64]; omega
  have q4 : ((m : Int) == 0) = false := by simp; omega
  have HF := Lib.hid hf
  have HL := Lib.hid hlt
  clear hf hlt
  refine callsIn_wide.2 ?_
  go_enter Try.func45, Try.ntmps45
  go_wp2_with (go_at_call 16; refine (hcall _).mono ?_; rintro e w' ⟨rfl, rfl⟩)
  clear c0 c1 c2 hcall
  go_loopw [6, 18] (fun _ i wr => ∃ pre : List (Pl m), pre.length ≤ m ∧ i = .int .i64 (pre.length : Int) ∧ Hid (FirstP h pre) ∧ Hid (J pre wr)) (fun _ i _ => m - (intOf i).toNat)
  case atStart => exact ⟨[], Nat.zero_le _, rfl, Lib.hid rfl, H0⟩
  case round =>
    obtain ⟨pre, hle, rfl, hF, hJ⟩ := hrel
    obtain ⟨k, hk⟩ : ∃ k, k = pre.length := ⟨_, rfl⟩
    rw [← hk] at hle ⊢
    have HK := Lib.hid hk
    clear hk
    by_cases hlt : k < m
    · obtain ⟨p, hp⟩ : ∃ p, p = prb h m k := ⟨_, rfl⟩
      have hpm : p < m := by rw [hp]; exact prb_lt hm0 _ _
      obtain ⟨x, hx⟩ : ∃ x : Pl m, x.1 = p := ⟨⟨p, hpm⟩, rfl⟩
      obtain ⟨fn, tmps, assign, body, hy, hRd⟩ := HY.out pre x wr hJ.out (by rw [← HK.out]; exact hlt)
      dsimp only [encP] at hy
      rw [hx] at hy
      have r1 : ((f : Int) + (k : Int)) % (m : Int) = (p : Int) := by
        rw [hp, HF.out]
        unfold prb
        rw [← Int.natCast_add, ← Int.natCast_emod, Nat.mod_add_mod]
      have hxk : x.1 = prb h m pre.length := by rw [hx, hp, HK.out]
      have HX := Lib.hid hxk
      clear hxk hx hp
      go_upto_region 5 with (fail)
      refine (wpIn_wide (n := n)).1 ?_
      gi_wp2_with fail
      refine hRd.mono ?_
      rintro e W3 (⟨rfl, hJ3⟩ | ⟨rfl, hJ3⟩)
      · gi_wp2_with fail
        go_wp2
        go_roundw
        case rel =>
          refine ⟨pre ++ [x], by rw [List.length_append, List.length_singleton, ← HK.out]; omega, ?_, Lib.hid (hF.out.snoc x HX.out), Lib.hid hJ3⟩
          rw [List.length_append, List.length_singleton, ← HK.out]
          rfl
        case measure => simp [intOf]; omega
      · gi_wp2_with fail
        go_wp2
        exact bodyPost_ret (v := .tuple #[]) (by simp [results, Try.results45]) rfl ⟨⟨_, rfl⟩, .inr ⟨_, ⟨hF.out.snoc x HX.out, by rw [List.length_append, List.length_singleton, ← HK.out]; omega⟩, hJ3⟩⟩
    · go_wp2
      go_end0
      exact ⟨⟨_, rfl⟩, .inl ⟨_, ⟨hF.out, by rw [← HK.out]; omega⟩, hJ.out⟩⟩
end Go.Proofs.Ytfnlegnieilcbaa
