/- ReadNumber, ReadRow, ReadFrame, ReadText. -/
import Derived.Test.YtdjcdhkdmgkdfaaC8
namespace Go.Proofs.Ytdjcdhkdmgkdfaa
open Go.RowKit Go.Proofs.Kit Go.Shelf

/-- What is read, seen from outside. -/
def Read {α : Type} (w : World) (R : Except Int (α × Nat)) (Z : Value) (G : α → Value → World → Prop) (e : Ending) (w' : World) : Prop :=
  Below w.heap.size w w' ∧ ((∃ x q v, R = .ok (x, q) ∧ e = .returned (.tuple #[v, .int .i64 ((q : Nat) : Int), .int .i64 0]) ∧ G x v w') ∨ (∃ c, R = .error c ∧ e = .returned (.tuple #[Z, .int .i64 0, .int .i64 c])))
theorem Stp.mono {α : Type} {r : Nat} {bv : Value} {bs : List Int} {w : World} {R : Except Int (α × Nat)} {G G' : α → Value → World → Prop} {e : Ending} {w' : World} (h : Stp r bv bs w R G e w') (hG : ∀ x v, G x v w' → G' x v w') : Stp r bv bs w R G' e w' := by
  obtain ⟨h1, ⟨x, p, v, h2, h3, h4, h5⟩ | h2⟩ := h
  · exact ⟨h1, .inl ⟨x, p, v, h2, h3, hG _ _ h4, h5⟩⟩
  · exact ⟨h1, .inr h2⟩
/-- A reader that was laid just now. -/
theorem Rdr.new {w : World} {bv : Value} {bs : List Int} {p : Nat} (hs : Seg .u8 w bv bs) (hb : Byt bs) (hl : bs.length ≤ 1000000000) (hp : p ≤ bs.length) : Rdr (w.alloc (.cells #[bv, .int .i64 (p : Int)] 62)) w.heap.size bv bs p := by
  refine ⟨Blk.new _ _ _, hs.alloc _, hb, fun b hb' => ?_, hp, hl⟩
  rcases hs.2 with ⟨rfl, _⟩ | ⟨b', f, c, rfl, _, _, h4, _⟩
  · simp [Value.ownBlock] at hb'
  · simp [Value.ownBlock] at hb'
    omega

set_option maxHeartbeats 1000000 in
theorem readn_any (p : Nat) (bv : Value) (bs : List Int) (w : World) (hs : Seg .u8 w bv bs) (hb : Byt bs) (hl : bs.length ≤ 1000000000) (hp : p ≤ bs.length) :
    Calls Try.prog 21 #[bv, .int .i64 (p : Int)] w (Read w (rdN bs p) (.int .u64 0) (fun x v _ => v = .int .u64 x)) := by
  have hmf : ∀ (fn : Fn) (first cap : Array Value) (w : World), (Instr.makeFunc fn first cap).run Try.prog w = .ok (.func fn first cap) w := fun _ _ _ _ => rfl
  have HRN := Lib.hid (Rdr.new hs hb hl hp)
  obtain ⟨o, c, rfl, _, _, _⟩ := hs.shape
  obtain ⟨n, hn⟩ : ∃ n, n = bs.length := ⟨_, rfl⟩
  rw [← hn] at HRN ⊢
  clear hs hb hl hp hn
  go_enter Try.func21, Try.ntmps21
  go_wp2_with fail
  refine (taken_any 32 w.heap.size p _ bs (rdN bs p) (fun x v _ => v = .int .u64 x) _ (enters_of Try.func32 (by kernel_rfl) rfl) HRN.out (fun _ _ _ _ h _ => h) (fun nq => ?_)).mono ?_
  · exact (mnumber_any w.heap.size p _ bs _ (HRN.out.later (below_drN ((Below.refl _ _).alloc (Nat.le_refl _) _) nq))).mono fun e w' h => h.mono fun x v h => h
  · rintro e w1 ⟨hB, ⟨x, q, v, hr, rfl, hG⟩ | ⟨cc, hr, rfl⟩⟩
    · have HRR := Lib.hid hr
      clear hr
      go_wp2
      go_ret3
      have h := hG
      exact ⟨((Below.refl _ _).alloc (Nat.le_refl _) _).trans (hB.below (Nat.le_refl _) (by simp)), .inl ⟨x, q, _, HRR.out, rfl, rfl⟩⟩
    · have HRR := Lib.hid hr
      clear hr
      go_wp2
      go_ret3
      exact ⟨((Below.refl _ _).alloc (Nat.le_refl _) _).trans (hB.below (Nat.le_refl _) (by simp)), .inr ⟨cc, HRR.out, rfl⟩⟩
set_option maxHeartbeats 1000000 in
theorem readn_arg (a : Int) (bv : Value) (bs : List Int) (w : World) (hs : Seg .u8 w bv bs) (ha : a < 0 ∨ (bs.length : Int) < a) :
    Calls Try.prog 21 #[bv, .int .i64 a] w fun e w' => e = .returned (.tuple #[.int .u64 0, .int .i64 0, .int .i64 2]) ∧ Below w.heap.size w w' := by
  have hmf : ∀ (fn : Fn) (first cap : Array Value) (w : World), (Instr.makeFunc fn first cap).run Try.prog w = .ok (.func fn first cap) w := fun _ _ _ _ => rfl
  obtain ⟨o, c, rfl, _, _, _⟩ := hs.shape
  obtain ⟨n, hn⟩ : ∃ n, n = bs.length := ⟨_, rfl⟩
  rw [← hn] at ha ⊢
  have HAA := Lib.hid ha
  clear hs hn ha
  go_enter Try.func21, Try.ntmps21
  go_wp2_with fail
  refine (taken_arg 32 w.heap.size n c a o _ (Blk.new _ _ _) HAA.out).mono ?_
  rintro e w1 ⟨rfl, hB⟩
  go_wp2
  go_ret3
  exact ⟨rfl, ((Below.refl _ _).alloc (Nat.le_refl _) _).trans (hB.below (Nat.le_refl _) (by simp))⟩
set_option maxHeartbeats 1000000 in
theorem readu_any (p : Nat) (bv : Value) (bs : List Int) (w : World) (hs : Seg .u8 w bv bs) (hb : Byt bs) (hl : bs.length ≤ 1000000000) (hp : p ≤ bs.length) :
    Calls Try.prog 20 #[bv, .int .i64 (p : Int)] w (Read w (rdRow bs p) (.slice none 0 0) (fun l v w' => Owns .u64 26 w.heap.size w' v l)) := by
  have hmf : ∀ (fn : Fn) (first cap : Array Value) (w : World), (Instr.makeFunc fn first cap).run Try.prog w = .ok (.func fn first cap) w := fun _ _ _ _ => rfl
  have HRN := Lib.hid (Rdr.new hs hb hl hp)
  obtain ⟨o, c, rfl, _, _, _⟩ := hs.shape
  obtain ⟨n, hn⟩ : ∃ n, n = bs.length := ⟨_, rfl⟩
  rw [← hn] at HRN ⊢
  clear hs hb hl hp hn
  go_enter Try.func20, Try.ntmps20
  go_wp2_with fail
  refine (takeu_any 30 w.heap.size p _ bs (rdRow bs p) (fun l v w' => Owns .u64 26 (w.heap.size + 1 + 1) w' v l) _ (enters_of Try.func30 (by kernel_rfl) rfl) HRN.out (fun _ _ _ _ h hb => hb.own h (by simp)) (fun nq => ?_)).mono ?_
  · exact (mrow_any w.heap.size p _ bs _ (by simp; omega) (HRN.out.later (below_drN ((Below.refl _ _).alloc (Nat.le_refl _) _) nq))).mono fun e w' h => h.mono fun x v h => Owns.mono h (by simp)
  · rintro e w1 ⟨hB, ⟨x, q, v, hr, rfl, hG⟩ | ⟨cc, hr, rfl⟩⟩
    · have HRR := Lib.hid hr
      clear hr
      go_wp2
      go_ret3
      have h := hG
      exact ⟨((Below.refl _ _).alloc (Nat.le_refl _) _).trans (hB.below (Nat.le_refl _) (by simp)), .inl ⟨x, q, _, HRR.out, rfl, Owns.mono h (by omega)⟩⟩
    · have HRR := Lib.hid hr
      clear hr
      go_wp2
      go_ret3
      exact ⟨((Below.refl _ _).alloc (Nat.le_refl _) _).trans (hB.below (Nat.le_refl _) (by simp)), .inr ⟨cc, HRR.out, rfl⟩⟩
set_option maxHeartbeats 1000000 in
theorem readu_arg (a : Int) (bv : Value) (bs : List Int) (w : World) (hs : Seg .u8 w bv bs) (ha : a < 0 ∨ (bs.length : Int) < a) :
    Calls Try.prog 20 #[bv, .int .i64 a] w fun e w' => e = .returned (.tuple #[.slice none 0 0, .int .i64 0, .int .i64 2]) ∧ Below w.heap.size w w' := by
  have hmf : ∀ (fn : Fn) (first cap : Array Value) (w : World), (Instr.makeFunc fn first cap).run Try.prog w = .ok (.func fn first cap) w := fun _ _ _ _ => rfl
  obtain ⟨o, c, rfl, _, _, _⟩ := hs.shape
  obtain ⟨n, hn⟩ : ∃ n, n = bs.length := ⟨_, rfl⟩
  rw [← hn] at ha ⊢
  have HAA := Lib.hid ha
  clear hs hn ha
  go_enter Try.func20, Try.ntmps20
  go_wp2_with fail
  refine (takeu_arg 30 w.heap.size n c a o _ (Blk.new _ _ _) HAA.out).mono ?_
  rintro e w1 ⟨rfl, hB⟩
  go_wp2
  go_ret3
  exact ⟨rfl, ((Below.refl _ _).alloc (Nat.le_refl _) _).trans (hB.below (Nat.le_refl _) (by simp))⟩
set_option maxHeartbeats 1000000 in
theorem readb_any (p : Nat) (bv : Value) (bs : List Int) (w : World) (hs : Seg .u8 w bv bs) (hb : Byt bs) (hl : bs.length ≤ 1000000000) (hp : p ≤ bs.length) :
    Calls Try.prog 23 #[bv, .int .i64 (p : Int)] w (Read w (rdFrame bs p) (.slice none 0 0) (fun l v w' => Owns .u8 5 w.heap.size w' v l)) := by
  have hmf : ∀ (fn : Fn) (first cap : Array Value) (w : World), (Instr.makeFunc fn first cap).run Try.prog w = .ok (.func fn first cap) w := fun _ _ _ _ => rfl
  have HRN := Lib.hid (Rdr.new hs hb hl hp)
  obtain ⟨o, c, rfl, _, _, _⟩ := hs.shape
  obtain ⟨n, hn⟩ : ∃ n, n = bs.length := ⟨_, rfl⟩
  rw [← hn] at HRN ⊢
  clear hs hb hl hp hn
  go_enter Try.func23, Try.ntmps23
  go_wp2_with fail
  refine (takeb_any 34 w.heap.size p _ bs (rdFrame bs p) (fun l v w' => Owns .u8 5 (w.heap.size + 1 + 1) w' v l) _ (enters_of Try.func34 (by kernel_rfl) rfl) HRN.out (fun _ _ _ _ h hb => hb.own h (by simp)) (fun nq => ?_)).mono ?_
  · exact (mframe_any w.heap.size p _ bs _ (HRN.out.later (below_drN ((Below.refl _ _).alloc (Nat.le_refl _) _) nq))).mono fun e w' h => h.mono fun x v h => Owns.mono h (by simp)
  · rintro e w1 ⟨hB, ⟨x, q, v, hr, rfl, hG⟩ | ⟨cc, hr, rfl⟩⟩
    · have HRR := Lib.hid hr
      clear hr
      go_wp2
      go_ret3
      have h := hG
      exact ⟨((Below.refl _ _).alloc (Nat.le_refl _) _).trans (hB.below (Nat.le_refl _) (by simp)), .inl ⟨x, q, _, HRR.out, rfl, Owns.mono h (by omega)⟩⟩
    · have HRR := Lib.hid hr
      clear hr
      go_wp2
      go_ret3
      exact ⟨((Below.refl _ _).alloc (Nat.le_refl _) _).trans (hB.below (Nat.le_refl _) (by simp)), .inr ⟨cc, HRR.out, rfl⟩⟩
set_option maxHeartbeats 1000000 in
theorem readb_arg (a : Int) (bv : Value) (bs : List Int) (w : World) (hs : Seg .u8 w bv bs) (ha : a < 0 ∨ (bs.length : Int) < a) :
    Calls Try.prog 23 #[bv, .int .i64 a] w fun e w' => e = .returned (.tuple #[.slice none 0 0, .int .i64 0, .int .i64 2]) ∧ Below w.heap.size w w' := by
  have hmf : ∀ (fn : Fn) (first cap : Array Value) (w : World), (Instr.makeFunc fn first cap).run Try.prog w = .ok (.func fn first cap) w := fun _ _ _ _ => rfl
  obtain ⟨o, c, rfl, _, _, _⟩ := hs.shape
  obtain ⟨n, hn⟩ : ∃ n, n = bs.length := ⟨_, rfl⟩
  rw [← hn] at ha ⊢
  have HAA := Lib.hid ha
  clear hs hn ha
  go_enter Try.func23, Try.ntmps23
  go_wp2_with fail
  refine (takeb_arg 34 w.heap.size n c a o _ (Blk.new _ _ _) HAA.out).mono ?_
  rintro e w1 ⟨rfl, hB⟩
  go_wp2
  go_ret3
  exact ⟨rfl, ((Below.refl _ _).alloc (Nat.le_refl _) _).trans (hB.below (Nat.le_refl _) (by simp))⟩
set_option maxHeartbeats 1000000 in
theorem reads_any (p : Nat) (bv : Value) (bs : List Int) (w : World) (hs : Seg .u8 w bv bs) (hb : Byt bs) (hl : bs.length ≤ 1000000000) (hp : p ≤ bs.length) :
    Calls Try.prog 24 #[bv, .int .i64 (p : Int)] w (Read w (rdCounted 4000 bs p) (.string ⟨#[]⟩) (fun l v _ => v = .string (ofB l))) := by
  have hmf : ∀ (fn : Fn) (first cap : Array Value) (w : World), (Instr.makeFunc fn first cap).run Try.prog w = .ok (.func fn first cap) w := fun _ _ _ _ => rfl
  have HRN := Lib.hid (Rdr.new hs hb hl hp)
  obtain ⟨o, c, rfl, _, _, _⟩ := hs.shape
  obtain ⟨n, hn⟩ : ∃ n, n = bs.length := ⟨_, rfl⟩
  rw [← hn] at HRN ⊢
  clear hs hb hl hp hn
  go_enter Try.func24, Try.ntmps24
  go_wp2_with fail
  refine (takes_any 36 w.heap.size p _ bs (rdCounted 4000 bs p) (fun l v _ => v = .string (ofB l)) _ (enters_of Try.func36 (by kernel_rfl) rfl) HRN.out (fun _ _ _ _ h _ => h) (fun nq => ?_)).mono ?_
  · exact (mtext_any w.heap.size p _ bs _ (HRN.out.later (below_drN ((Below.refl _ _).alloc (Nat.le_refl _) _) nq))).mono fun e w' h => h.mono fun x v h => h
  · rintro e w1 ⟨hB, ⟨x, q, v, hr, rfl, hG⟩ | ⟨cc, hr, rfl⟩⟩
    · have HRR := Lib.hid hr
      clear hr
      go_wp2
      go_ret3
      have h := hG
      exact ⟨((Below.refl _ _).alloc (Nat.le_refl _) _).trans (hB.below (Nat.le_refl _) (by simp)), .inl ⟨x, q, _, HRR.out, rfl, rfl⟩⟩
    · have HRR := Lib.hid hr
      clear hr
      go_wp2
      go_ret3
      exact ⟨((Below.refl _ _).alloc (Nat.le_refl _) _).trans (hB.below (Nat.le_refl _) (by simp)), .inr ⟨cc, HRR.out, rfl⟩⟩
set_option maxHeartbeats 1000000 in
theorem reads_arg (a : Int) (bv : Value) (bs : List Int) (w : World) (hs : Seg .u8 w bv bs) (ha : a < 0 ∨ (bs.length : Int) < a) :
    Calls Try.prog 24 #[bv, .int .i64 a] w fun e w' => e = .returned (.tuple #[.string ⟨#[]⟩, .int .i64 0, .int .i64 2]) ∧ Below w.heap.size w w' := by
  have hmf : ∀ (fn : Fn) (first cap : Array Value) (w : World), (Instr.makeFunc fn first cap).run Try.prog w = .ok (.func fn first cap) w := fun _ _ _ _ => rfl
  obtain ⟨o, c, rfl, _, _, _⟩ := hs.shape
  obtain ⟨n, hn⟩ : ∃ n, n = bs.length := ⟨_, rfl⟩
  rw [← hn] at ha ⊢
  have HAA := Lib.hid ha
  clear hs hn ha
  go_enter Try.func24, Try.ntmps24
  go_wp2_with fail
  refine (takes_arg 36 w.heap.size n c a o _ (Blk.new _ _ _) HAA.out).mono ?_
  rintro e w1 ⟨rfl, hB⟩
  go_wp2
  go_ret3
  exact ⟨rfl, ((Below.refl _ _).alloc (Nat.le_refl _) _).trans (hB.below (Nat.le_refl _) (by simp))⟩
end Go.Proofs.Ytdjcdhkdmgkdfaa
