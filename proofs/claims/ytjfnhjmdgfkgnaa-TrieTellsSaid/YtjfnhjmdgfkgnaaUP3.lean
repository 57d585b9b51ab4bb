/- TrieTells: the keys under paths, and which paths there are: for all tries and all rows of paths the law returns true. No condition. -/
import Derived.Test.YtjfnhjmdgfkgnaaU34
import Derived.Test.YtjfnhjmdgfkgnaaVD
import Derived.Deep.Matrix
import Derived.SizedLaws
namespace Go.Proofs.Ytjfnhjmdgfkgnaa
open Go.ChangeShapes Go.WideShapes Go.ChangeAt Go.RowKit Go.Joins Go.Proofs.Kit

theorem bytes_us : Try.prog.bytesOf 23 = 24 := by kernel_rfl
set_option maxRecDepth 100000 in
/-- An argument that is a row of paths. -/
theorem open_paths {H : Type} {enc : TypeId × Value → H} {W : World} {r : Reach} {b0 : Nat} {v : Value} {d : DataW H} {p : List MemPlace} (hv : Value.okWide Try.prog W r b0 26 v) (h : DataW.Trod enc Try.prog W 0 (fun _ => true) true 26 v d p) :
    ∃ (o : Option Addr) (n c : Nat) (rs : List PIn), v = .slice o n c ∧ rs.length = n ∧ APs W o c rs ∧ (n = 0 ∨ ∃ elems spare, d = .slice elems spare ∧ elems.length = n) := by
  obtain ⟨o, len, cap, rfl⟩ := okWide_slice Try.underlying26 hv
  obtain ⟨fuel, hf⟩ := h
  rcases Deep.open_int_rows Try.underlying26 Try.underlying23 Try.underlying32 cells_us cells_u64 hf with ⟨h0, _⟩ | ⟨a, len', cap', A, L, C, Z, h0, _, hlc, hcm, hxe, hx⟩
  · simp [Value.cells] at h0
    obtain ⟨rfl, rfl, rfl⟩ := h0
    exact ⟨none, 0, 0, [], rfl, rfl, .inl ⟨rfl, rfl, rfl⟩, .inl rfl⟩
  · simp [Value.cells] at h0
    obtain ⟨rfl, rfl, rfl⟩ := h0
    refine ⟨some a, len, cap, (List.range len).map fun r => ⟨A r, L r, C r, (Z r).take (L r)⟩, rfl, by simp, .inr ⟨a, rfl, fun i hi => ?_⟩, .inr ⟨_, _, (congrArg Prod.fst hxe), by simp⟩⟩
    have hi' : i < len := by simpa using hi
    obtain ⟨x1, x2, x3, x4, x5, x6, x7⟩ := hx i (by omega)
    simp only [List.getElem_map, List.getElem_range]
    refine ⟨x1, by simp; omega, x2, by unfold maxLen at x3; exact x3, fun j hj => ?_⟩
    have hj' : j < L i := by simp only [List.length_take] at hj; omega
    cases hA : A i with
    | none => have := x6 hA; omega
    | some a' =>
      refine ⟨a', rfl, ?_⟩
      rw [(x7 a' hA).2 j (by omega), List.getElem_take]
      simp [List.getD, show j < (Z i).length by omega]
set_option maxRecDepth 100000 in
theorem trieTells_lifted (os : Os) (started : os.Started) (H : Type) (enc : TypeId × Value → H) :
    ReturnsInHanded {} Try.checked os 3 .any (Rows.trieTellsSpec.pre6 enc Try.prog Try.f3 Rows.trieTellsRow.domain false) (Rows.trieTellsSpec.post enc Try.prog Try.f3 false true false false) := by
  refine returnsInHanded_of_change_sized (C := Try.checked) own started (by kernel_rfl) Try.func3
    (ChangeSpec.witness6 (enc := enc) (C := Try.checked) false ⟨#[], #[.agg #[.slice none 0 0, .slice none 0 0], .slice none 0 0], []⟩ 8 (by kernel_rfl) (by kernel_rfl) (by kernel_rfl) (by kernel_rfl)) ?_
  intro W base args ds gs before hval0 hW _ hsz0 _
  have hsz : (DataW.weightsEach Try.prog (Try.f3.params.toList ++ Rows.trieTellsSpec.plain.varTypes Try.prog) (ds ++ gs)).all (· ≤ reachBytes) = true := hsz0
  clear hsz0
  have hval : ∀ (j : Nat) t v, Try.f3.params[j]? = some t → args[j]? = some v → Value.okWide Try.prog W .any base t v := hval0
  have hW' := hW
  obtain ⟨p, q, hA0, hV, rfl, _, _⟩ := hW
  have hA : DataW.TrodAll enc Try.prog W 0 (fun _ => true) true Try.f3.params.toList args.toList ds p := hA0
  rw [Try.params3] at hA hval hsz
  obtain ⟨v0, v1, d0, d1, p0, p1, rfl, rfl, rfl, h0, h1⟩ := trodAll_two hA
  obtain ⟨rfl, rfl⟩ := trodVars_none hV
  obtain ⟨ob, m, cb, bs, ol, q, cl, lv, rfl, t1, t2, t3, t4, t5, t6, t7, t8⟩ := open_trie (hval 0 25 v0 rfl rfl) h0
  obtain ⟨op, np, cp, rs, rfl, u1, u2, u3⟩ := open_paths (hval 1 26 v1 rfl rfl) h1
  have hbig : np * 24 ≤ 140737488351232 := by
    rcases u3 with rfl | ⟨elems, spare, rfl, e2⟩
    · omega
    · have := sized_slice hsz (j := 1) (t := 26) (e := 23) rfl rfl Try.underlying26
      rw [bytes_us] at this
      simp only [reachBytes] at this
      omega
  refine (trieTells_true ob m cb bs ol q cl lv op np cp rs W t1 t2 t3 t4 t5 t6 t7 t8 u1 (by omega) u2).mono fun e W' ⟨he, hb⟩ => ?_
  subst he
  exact ⟨_, rfl, law_post laidOut (by kernel_rfl) (by kernel_rfl : Try.f3.resultTypes = #[4]) Try.underlying4 rfl hW' rfl hb⟩

theorem trieTells_holds : Rows.TrieTellsSaid :=
  OpenClaim.holds_of_wide 3 Try.f3 rfl rfl rfl rfl rfl rfl rfl ⟨rfl, rfl, rfl, rfl, rfl⟩ rfl rfl rfl rfl rfl (by kernel_rfl) Try.func3 (by kernel_rfl)
    (of_decide_eq_true (by kernel_rfl)) (by unfold Func.isWrapper; first | (rw [if_pos (by decide +kernel)]; kernel_rfl) | (rw [if_neg (by decide +kernel)]; exact ⟨rfl, rfl⟩))
    (fun os started H enc _ => trieTells_lifted os started H enc)
#print axioms trieTells_holds
end Go.Proofs.Ytjfnhjmdgfkgnaa

