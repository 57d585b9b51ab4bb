/- slices.Sort of numbers. -/
import Derived.Test.YtbcloahekffjdaaH25
import Derived.Test.YtbcloahekffjdaaShL
namespace Go.Proofs.Ytbcloahekffjdaa
open Go.RowKit Go.Proofs.Kit
theorem ins_nil (c : Nat) (w : World) : Calls Try.prog 47 #[.slice none 0 c, .int .i64 0, .int .i64 0] w fun e w' => e = .returned (.tuple #[]) ∧ w' = w := by
  go_enter Try.func47, Try.ntmps47
  go_wp2
  go_loopw [6, 7] (fun i _ wr => i = .int .i64 1 ∧ wr = w) (fun _ _ _ => 0)
  case atStart => exact ⟨rfl, rfl⟩
  case round =>
    obtain ⟨rfl, rfl⟩ := hrel
    go_wp2
    go_end0
    exact ⟨rfl, rfl⟩
set_option maxRecDepth 100000 in
theorem pdq_nil (c : Nat) (l : Int) (w : World) : Calls Try.prog 39 #[.slice none 0 c, .int .i64 0, .int .i64 0, .int .i64 l] w fun e w' => e = .returned (.tuple #[]) ∧ w' = w := by
  go_enter Try.func39, Try.ntmps39
  go_wp2
  go_loopw [1, 2, 3, 8, 9, 10, 11, 12, 13, 14, 15, 16, 17, 18] (fun v1 v2 _ _ _ _ _ _ _ _ _ _ _ _ wr => v1 = .int .i64 0 ∧ v2 = .int .i64 0 ∧ wr = w) (fun _ _ _ _ _ _ _ _ _ _ _ _ _ _ _ => 0)
  case atStart => exact ⟨rfl, rfl, rfl⟩
  case round =>
    obtain ⟨rfl, rfl, rfl⟩ := hrel
    go_wp2_with (go_at_call 47; refine (ins_nil c _).mono ?_; rintro e w' ⟨rfl, rfl⟩)
    exact bodyPost_ret (v := .tuple #[]) (by simp [results, Try.results39, go_sem]) rfl ⟨rfl, rfl⟩
theorem bitLen_le : ∀ f x, Lib.bitLenAux f x ≤ f := by
  intro f
  induction f with
  | zero => intro x; simp [Lib.bitLenAux]
  | succ f ih =>
    intro x
    rw [Lib.bitLenAux]
    split
    · omega
    · have := ih (x / 2); omega
/-- What the sort comes to. -/
def SoP (B : Nat) (v : Value) (l : List Int) (w : World) (e : Ending) (w' : World) : Prop :=
  ∃ l' : List Int, e = .returned (.tuple #[]) ∧ Ow 27 B w' v (l'.map (Value.int .u64)) ∧ l'.length = l.length ∧ l'.Pairwise (· ≤ ·) ∧ Below B w w'
set_option maxHeartbeats 1000000 in
theorem sort_any (B : Nat) (v : Value) (l : List Int) (w : World) (h : Ow 27 B w v (l.map (Value.int .u64))) (hl : l.length ≤ 1000000) (hB : B ≤ w.heap.size) :
    Calls Try.prog 27 #[v] w (SoP B v l w) := by
  have H := Lib.hid h
  rcases h.2 with ⟨rfl, h2⟩ | ⟨g, cap, cur, rfl, hg, hb, h1, h2, h3, h4⟩
  · have hl0 : l = [] := by simpa using h2
    subst hl0
    go_enter Try.func27, Try.ntmps27
    go_wp2_with (first | (go_at_call 38; refine (Try.bits_Len 0 _ (by omega) (by omega)).mono ?_; rintro e w' ⟨rfl, rfl⟩) | (go_at_call 39; refine (pdq_nil _ _ _).mono ?_; rintro e w' ⟨rfl, rfl⟩))
    go_end0
    exact ⟨[], rfl, H.out, rfl, List.Pairwise.nil, Below.refl _ _⟩
  · clear hb h1 h2 h3 h4 h
    obtain ⟨n, hn⟩ : ∃ n, n = l.length := ⟨_, rfl⟩
    have hs0 := SR.start (d := l.toArray) (n := n) (g := g) (cap := cap) (by rw [hn]; simpa using H.out) (by simp [hn])
    have HS := Lib.hid hs0
    have HL := Lib.hid hn
    rw [List.length_map, ← hn]
    have hn1 : n ≤ 1000000 := by omega
    have hwn : IntKind.u64.wrap (n : Int) = (n : Int) := by rw [IntKind.wrap_u64]; omega
    obtain ⟨lim, hlim⟩ : ∃ lim, lim = Lib.bitLen n := ⟨_, rfl⟩
    have hlm : lim ≤ 1000 := by
      rw [hlim]
      have := bitLen_le 64 n
      unfold Lib.bitLen
      omega
    have hlen := fun w => Try.bits_Len (n : Int) w (by omega) (by omega)
    rw [Int.toNat_natCast, ← hlim] at hlen
    have hpd := pdq_rec B g n cap w hn1 (n + 1) 0 n 0 (n : Int) lim l.toArray w (by omega) rfl rfl HS.out (Nat.zero_le _) (Nat.le_refl _) hlm (.inl rfl)
    have hgB : B ≤ g := HS.out.ge
    clear hs0 hlim hlm hn
    go_enter Try.func27, Try.ntmps27
    go_wp2_with (first | (go_at_call 38; refine (hlen _).mono ?_; rintro e w' ⟨rfl, rfl⟩) | (go_at_call 39; refine hpd.mono ?_; rintro e w' ⟨d, rfl, hp, hs, HR⟩))
    go_end0
    have hd : d.size = n := HR.out.len
    refine ⟨d.toList, rfl, by simpa using HR.out.ow, by rw [Array.length_toList, hd]; exact HL.out, ?_, HR.out.but.below (fun b hb => by rw [hb]; exact hgB) hB⟩
    rw [List.pairwise_iff_getElem]
    intro i j hi hj hij
    have h0 := hs i j (Nat.zero_le _) hij (by rw [← hd]; simpa using hj)
    rw [getE d (i := j) (by simpa using hj), getE d (i := i) (by simpa using hi)] at h0
    simpa using h0
end Go.Proofs.Ytbcloahekffjdaa
