import Derived.Test.YtfknocgmobddmaaX2
import Derived.Test.YtfknocgmobddmaaT9
import Derived.Deep.RegionHeld3
namespace Go.Proofs.Ytfknocgmobddmaa
open Go.RowKit Go.Proofs.Kit Go.Shelf

/-- The digits, by so many steps. -/
def digsF : Nat → Nat → List (Fin 10)
  | 0, _ => []
  | f + 1, n => ⟨n % 10, Nat.mod_lt _ (by decide)⟩ :: if n / 10 = 0 then [] else digsF f (n / 10)
theorem digsF_eq : ∀ (f n : Nat), n < 10 ^ f → 0 < f → digsF f n = digs n
  | f + 1, n, h, _ => by
    by_cases h0 : n / 10 = 0
    · rw [digs_last h0, digsF, if_pos h0]
    · rw [digs_more h0, digsF, if_neg h0]
      have h1 : n / 10 < 10 ^ f := by rw [Nat.pow_succ] at h; omega
      have h2 : 0 < f := by rcases Nat.eq_zero_or_pos f with rfl | h'; (simp at h1; omega); exact h'
      rw [digsF_eq f (n / 10) h1 h2]

theorem text_any (N : Nat) (hN : (N : Int) < Big) (w : World) :
    Calls Try.prog 25 #[WV (hiW N) (loW N)] w fun e w' => e = .returned (.string ⟨(textOf N).toArray⟩) ∧ Below w.heap.size w w' := callsIn_wide.1 (text_in N hN w)

theorem c_add1 (w : World) : Calls Try.prog 12 #[WV 0 18446744073709551615, WV 0 1] w fun e w' => e = .returned (.tuple #[WV 1 0, .int .i64 0]) ∧ Below w.heap.size w w' :=
  (add_any _ _ _ _ (by unfold Wd; omega) (by unfold Wd; omega) (by unfold Wd; omega) (by unfold Wd; omega) w).mono fun _ _ ⟨h, hb⟩ => ⟨h.1 (by decide), hb⟩
theorem c_add2 (w : World) : Calls Try.prog 12 #[WV 18446744073709551615 18446744073709551615, WV 0 1] w fun e w' => e = .returned (.tuple #[WV 0 0, .int .i64 110]) ∧ Below w.heap.size w w' :=
  (add_any _ _ _ _ (by unfold Wd; omega) (by unfold Wd; omega) (by unfold Wd; omega) (by unfold Wd; omega) w).mono fun _ _ ⟨h, hb⟩ => ⟨h.2 (by decide), hb⟩
theorem c_div (w : World) : Calls Try.prog 21 #[WV 1 0, .int .u64 3] w fun e w' => e = .returned (.tuple #[WV 0 6148914691236517205, .int .u64 1, .int .i64 0]) ∧ Below w.heap.size w w' :=
  (div_any 1 0 3 (by unfold Wd; omega) (by unfold Wd; omega) (by unfold Wd; omega) (by omega) w).mono fun _ _ ⟨h, hb⟩ => ⟨h, hb⟩
theorem c_pow (w : World) : Calls Try.prog 22 #[WV 0 2, .int .i64 127] w fun e w' => e = .returned (.tuple #[WV 9223372036854775808 0, .int .i64 0]) ∧ Below w.heap.size w w' :=
  (powerf_any 0 2 127 (by unfold Wd; omega) (by unfold Wd; omega) (by omega) w).mono fun _ _ ⟨h, hb⟩ => ⟨h.1 (by decide), hb⟩
theorem t_text : (textOf 18446744073709551616).toArray = #[49, 56, 52, 52, 54, 55, 52, 52, 48, 55, 51, 55, 48, 57, 53, 53, 49, 54, 49, 54] := by
  unfold textOf
  rw [← digsF_eq 20 18446744073709551616 (by decide) (by decide)]
  decide
theorem c_text (w : World) : Calls Try.prog 25 #[WV 1 0] w fun e w' => e = .returned (.string ⟨#[49, 56, 52, 52, 54, 55, 52, 52, 48, 55, 51, 55, 48, 57, 53, 53, 49, 54, 49, 54]⟩) ∧ Below w.heap.size w w' :=
  (text_any 18446744073709551616 (by decide) w).mono fun _ _ ⟨h, hb⟩ => ⟨by rw [h, t_text], hb⟩
end Go.Proofs.Ytfknocgmobddmaa
