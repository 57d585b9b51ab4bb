/- Put's answer, put together, against the reference's. -/
import Derived.Test.YtmghbejbdkoehaaK10
import Derived.Test.YtmghbejbdkoehaaK20
import Derived.Test.YtmghbejbdkoehaaK28
namespace Go.Proofs.Kit
open Go.RowKit
/-- A row of words that came in: kinds, and names. -/
def ArgW (w : World) (o : Option Addr) (c : Nat) (l : List (Int × ByteArray)) : Prop := (o = none ∧ l = [] ∧ c = 0) ∨ ∃ a, o = some a ∧ ∀ i (h : i < l.length), w.cell? (a.add (i * 2)) = some (.int .i64 l[i].1) ∧ w.cell? (a.add (i * 2 + 1)) = some (.string l[i].2)
/-- What Put comes to, against the reference's. -/
structure PutA (ts ti : TypeId) (hs : ByteArray → Nat) (w : World) (T : Nat → List ByteArray) (S : Nat → List Int) (k : Int) (s : ByteArray) (G H : Nat → Value) (TG : Nat → List ByteArray) (SG : Nat → List Int) (id e : Int) (w' : World) : Prop where
  ow : DOw ts ti w.heap.size w' G H TG SG
  lim : DLim TG SG
  low : Below w.heap.size w w'
  cse : (e = 0 ∧ DGood hs T S ∧ DGood hs TG SG ∧ ∀ T' i c, EPutR T k s T' i c → i = id ∧ c = 0 ∧ ∀ k, k < 5 → TG k = T' k) ∨
    (e ≠ 0 ∧ TG = (fun _ => []) ∧ SG = (fun _ => []) ∧ ((¬ DGood hs T S ∧ e = 160 ∧ id = 0) ∨ (DGood hs T S ∧ ∀ T' i c, EPutR T k s T' i c → i = id ∧ c = e)))
theorem dlim_nil : DLim (fun _ => []) (fun _ => []) := ⟨fun _ => by simp, fun _ => by simp, fun _ => by simp⟩
theorem putA_of {ts ti : TypeId} {hs : ByteArray → Nat} {w : World} {T : Nat → List ByteArray} {S : Nat → List Int} {k : Int} {s : ByteArray} {en : Ending} {w' : World} (h : DPutP ts ti hs w T S k s en w') :
    ∃ G H TG SG id e, en = .returned (.tuple #[.agg (dcs G H), .int .i64 id, .int .i64 e]) ∧ PutA ts ti hs w T S k s G H TG SG id e w' := by
  cases h with
  | bad _ h hb => exact ⟨_, _, _, _, _, _, rfl, DOw.nil _ _ _ _, dlim_nil, hb, .inr ⟨by decide, rfl, rfl, .inl ⟨h, rfl, rfl⟩⟩⟩
  | arg _ h hm hb =>
    refine ⟨_, _, _, _, _, _, rfl, DOw.nil _ _ _ _, dlim_nil, hb, .inr ⟨by decide, rfl, rfl, .inr ⟨h, fun T' i c he => ?_⟩⟩⟩
    rcases he with ⟨_, _, rfl, rfl⟩ | ⟨h1, _⟩
    · exact ⟨rfl, rfl⟩
    · rw [hm] at h1; cases h1
  | full n _ h hn hk hm hni hl hb =>
    refine ⟨_, _, _, _, _, _, rfl, DOw.nil _ _ _ _, dlim_nil, hb, .inr ⟨by decide, rfl, rfl, .inr ⟨h, fun T' i c he => ?_⟩⟩⟩
    rcases he with ⟨h1, _⟩ | ⟨_, n', hn', hk', hx⟩
    · rw [hm] at h1; cases h1
    · have : n' = n := by omega
      subst this
      rcases hx with ⟨h1, _⟩ | ⟨_, _, _, rfl, rfl⟩ | ⟨_, h1, _⟩
      · exact (hni h1).elim
      · exact ⟨rfl, rfl⟩
      · exact (h1 hl).elim
  | ok n _ A B T2 S2 h hk p hl =>
    refine ⟨_, _, _, _, _, _, rfl, p.ow, p.lim, p.low, .inl ⟨rfl, h, p.good, fun T' i c he => ?_⟩⟩
    rcases he with ⟨h1, _⟩ | ⟨_, n', hn', hk', hx⟩
    · rw [hk, p.may] at h1; cases h1
    · have : n' = n := by omega
      subst this
      rcases hx with ⟨h1, rfl, rfl, rfl⟩ | ⟨h1, h2, _⟩ | ⟨h1, _, rfl, rfl, rfl⟩
      · refine ⟨by unfold putI; rw [if_pos h1], rfl, fun k hk => ?_⟩
        by_cases e : k = n'
        · subst e; rw [p.tn]; unfold putT; rw [if_pos h1]
        · exact p.oth k hk e
      · rcases hl with hl | hl
        · exact (h1 hl).elim
        · omega
      · refine ⟨by unfold putI; rw [if_neg h1], rfl, fun k hk => ?_⟩
        by_cases e : k = n'
        · subst e; rw [p.tn, upd_same]; unfold putT; rw [if_neg h1]
        · rw [upd_ne _ _ e]; exact p.oth k hk e
/-- Cut again it is the same. -/
theorem cut_twice (T : Nat → List ByteArray) : fst (cutT (fst (cutT T) 5)) 5 = fst (cutT T) 5 := by
  funext k
  unfold fst cutT
  split
  · rename_i h
    dsimp only
    rw [if_pos h, List.take_take, Nat.min_self]
  · rfl
theorem cut_twiceS (S : Nat → List Int) : fst (cutS6 (fst (cutS6 S) 5)) 5 = fst (cutS6 S) 5 := by
  funext k
  unfold fst cutS6
  split
  · rename_i h
    dsimp only
    rw [if_pos h, List.take_take, Nat.min_self]
  · rfl
end Go.Proofs.Kit
namespace Go.Proofs.Ytmghbejbdkoehaa
open Go.RowKit Go.Proofs.Kit Go.Shelf
theorem dputA_any (a b : Nat → Value) (T : Nat → List ByteArray) (S : Nat → List Int) (w : World) (h : DSl w a b T S) (hL : DLim T S) (k : Int) (s : ByteArray) (hs : s.size ≤ 9223372036854775807) :
    Calls Try.prog 26 #[.agg (dcs a b), .int .i64 k, .string s] w fun en w' => ∃ G H TG SG id e, en = .returned (.tuple #[.agg (dcs G H), .int .i64 id, .int .i64 e]) ∧ PutA 9 3 hsh w T S k s G H TG SG id e w' :=
  (dput_any a b T S w h hL k s hs).mono fun _ _ h => putA_of h
end Go.Proofs.Ytmghbejbdkoehaa

