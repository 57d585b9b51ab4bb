/- table.Find and table.Text. -/
import Derived.Test.YtmghbejbdkoehaaJ6
namespace Go.Proofs.Kit
open Go.RowKit
/-- What Find answers. -/
def FindR (T : List ByteArray) (S : List Int) (s : ByteArray) (n : Int) (ok : Bool) : Prop := (Good hsh T S ∧ s ∈ T ∧ n = (pos T s : Int) ∧ ok = true) ∨ (¬ (Good hsh T S ∧ s ∈ T) ∧ n = 0 ∧ ok = false)
/-- What Text answers. -/
def TextR (T : List ByteArray) (S : List Int) (n : Int) (r : ByteArray) (e : Int) : Prop :=
  (¬ Good hsh T S ∧ r = ⟨#[]⟩ ∧ e = 150) ∨ (Good hsh T S ∧ (∃ h : n.toNat < T.length, 0 ≤ n ∧ r = T[n.toNat]) ∧ e = 0) ∨ (Good hsh T S ∧ ¬ (0 ≤ n ∧ n < (T.length : Int)) ∧ r = ⟨#[]⟩ ∧ e = 4)
theorem findR_ex (T : List ByteArray) (S : List Int) (s : ByteArray) : ∃ n ok, FindR T S s n ok := by
  by_cases h : Good hsh T S ∧ s ∈ T
  · exact ⟨_, _, .inl ⟨h.1, h.2, rfl, rfl⟩⟩
  · exact ⟨_, _, .inr ⟨h, rfl, rfl⟩⟩
theorem textR_ex (T : List ByteArray) (S : List Int) (n : Int) : ∃ r e, TextR T S n r e := by
  by_cases h : Good hsh T S
  · by_cases c : 0 ≤ n ∧ n < (T.length : Int)
    · exact ⟨_, _, .inr (.inl ⟨h, ⟨by omega, c.1, rfl⟩, rfl⟩)⟩
    · exact ⟨_, _, .inr (.inr ⟨h, c, rfl, rfl⟩)⟩
  · exact ⟨_, _, .inl ⟨h, rfl, rfl⟩⟩
end Go.Proofs.Kit
namespace Go.Proofs.Ytmghbejbdkoehaa
open Go.RowKit Go.Proofs.Kit Go.Shelf

set_option maxRecDepth 100000 in
set_option maxHeartbeats 1000000 in
theorem number_any (vT vS : Value) (T : List ByteArray) (S : List Int) (s : ByteArray) (hs : s.size ≤ 9223372036854775807) (w : World) (hT : Sl w vT (T.map Value.string)) (hS : Sl w vS (S.map (Value.int .i64))) (hm : S.length ≤ 1000000000) (hTl : T.length ≤ 1000000000)
    (hg : Kit.Good hsh T S) (n : Int) (ok : Bool) (hr : FindR T S s n ok) :
    Calls Try.prog 70 #[.agg #[vT, vS], .string s] w fun e w' => e = .returned (.tuple #[.int .i64 n, .int .i64 (if ok then 0 else 4)]) ∧ Gr w w' := by
  have hmix := mixed
  have HT := Lib.hid hT
  have HS := Lib.hid hS
  obtain ⟨oT, cT, rfl, _, _, _⟩ := hT.mshape
  obtain ⟨oS, cS, rfl, _, _, aS⟩ := hS.mshape
  obtain ⟨p, hp⟩ := seatO_some (hs := hsh) (T := T) (s := s) hg.free
  have hpl := seatO_lt hp
  obtain ⟨bS, fS, rfl, hbS, hcS⟩ := aS.resolve_left (fun e => by rw [e] at hpl; simp at hpl)
  have hy' : at0 S p = S[p] := at0_lt hpl
  have hyn := hg.fl.1 _ (List.getElem_mem hpl)
  have d0 := hcS p hpl
  obtain ⟨y, hy⟩ : ∃ y, y = S[p] := ⟨_, rfl⟩
  rw [← hy] at d0 hy' hyn
  have hyr : (ok = true ∧ n = y - 1 ∧ 0 < y) ∨ (ok = false ∧ n = 0 ∧ y = 0) := by
    rcases hr with ⟨_, h2, h3, h4⟩ | ⟨h2, h3, h4⟩
    · have := hg.has hp h2
      exact .inl ⟨h4, by omega, by omega⟩
    · obtain ⟨_, _, _, h5, _⟩ := hg.hasnt hp (fun e => h2 ⟨hg, e⟩)
      exact .inr ⟨h4, h3, by omega⟩
  obtain ⟨m, hm'⟩ : ∃ m, m = S.length := ⟨_, rfl⟩
  obtain ⟨q, hq'⟩ : ∃ q, q = T.length := ⟨_, rfl⟩
  rw [← hm'] at hm hpl HS ⊢
  rw [← hq'] at hTl HT hyn ⊢
  have HM := Lib.hid hm'
  have HQ := Lib.hid hq'
  have HP := Lib.hid hp
  have HG := Lib.hid hg
  clear hT hS hm' hq' hp hg hr hy' hy hcS
  have q1 : (p : Int) < (m : Int) := by omega
  go_enter Try.func70, Try.ntmps70
  go_wp2
  obtain ⟨W, hW⟩ : ∃ W, W = w.alloc (.cells #[.slice oT q cT, .slice (some ⟨bS, fS, none⟩) m cS] 113) := ⟨_, rfl⟩
  have hG : Gr w W := by rw [hW]; exact Gr.alloc _ _
  have bx : Blk W w.heap.size #[.slice oT q cT, .slice (some ⟨bS, fS, none⟩) m cS] 113 := by rw [hW]; exact Blk.new _ _ _
  rw [← hW]
  clear hW
  have d1 := cell_grown (a := ⟨bS, fS + p, none⟩) (Nat.lt_of_lt_of_le hbS hG.below.size) ((hG.below.cell (p := ⟨bS, fS + p, none⟩) hbS).trans d0)
  have hT1 := HT.out.gr hG
  have hS1 := HS.out.gr hG
  have hseat := fun n os => seat_any _ _ T S s hs (Sort.grow (W.drewN n) os) (hT1.gr (Gr.grown W n os)) (hS1.gr (Gr.grown W n os)) (by have := HM.out; omega) (by have := HQ.out; omega) HG.out.fl.1 p HP.out
  have e0 : ∀ n os, (Sort.grow (W.drewN n) os).cell? ⟨w.heap.size, 0, none⟩ = some (.slice oT q cT) := cell_grown bx.lt (bx.cell 0)
  have e1 : ∀ n os, (Sort.grow (W.drewN n) os).cell? ⟨w.heap.size, 1, none⟩ = some (.slice (some ⟨bS, fS, none⟩) m cS) := cell_grown bx.lt (bx.cell 1)
  have HSEAT := Lib.hid hseat
  clear hT1 hS1 hseat bx d0 hbS
  have q2 : IntKind.i64.wrap (y - 1) = y - 1 := by rw [IntKind.wrap_i64]; omega
  rcases hyr with ⟨rfl, rfl, h1⟩ | ⟨rfl, rfl, h1⟩
  · have h2 : decide (y - 1 < 0) = false := by simp; omega
    go_quiet_grown ((go_at_call 79; refine Calls.gr_of (HSEAT.out _ _)))
    go_wp2
    go_ret2
    exact ⟨rfl, hG.trans (Gr.grown _ _ _)⟩
  · subst h1
    go_quiet_grown ((go_at_call 79; refine Calls.gr_of (HSEAT.out _ _)))
    go_wp2
    go_ret2
    exact ⟨rfl, hG.trans (Gr.grown _ _ _)⟩

set_option maxRecDepth 100000 in
set_option maxHeartbeats 1000000 in
theorem text_any (vT vS : Value) (T : List ByteArray) (w : World) (hT : Sl w vT (T.map Value.string)) (oS : Option Addr) (nS cS : Nat) (hvS : vS = .slice oS nS cS) (n : Int) (r : ByteArray) (e : Int)
    (hr : ((∃ h : n.toNat < T.length, 0 ≤ n ∧ r = T[n.toNat]) ∧ e = 0) ∨ (¬ (0 ≤ n ∧ n < (T.length : Int)) ∧ r = ⟨#[]⟩ ∧ e = 4)) :
    Calls Try.prog 72 #[.agg #[vT, vS], .int .i64 n] w fun en w' => en = .returned (.tuple #[.string r, .int .i64 e]) ∧ Gr w w' := by
  subst hvS
  obtain ⟨oT, cT, rfl, _, _, aT⟩ := hT.mshape
  rcases hr with ⟨⟨h1, h2, h3⟩, rfl⟩ | ⟨h1, rfl, rfl⟩
  · obtain ⟨bT, fT, rfl, hbT, hcT⟩ := aT.resolve_left (fun e => by rw [e] at h1; simp at h1)
    have d0 := hcT _ h1
    rw [← h3] at d0
    obtain ⟨k, rfl⟩ := Int.eq_ofNat_of_zero_le h2
    simp only [Int.toNat_natCast] at d0 h1
    obtain ⟨q, hq'⟩ : ∃ q, q = T.length := ⟨_, rfl⟩
    rw [← hq'] at h1 ⊢
    clear hT hcT h3 hq' aT
    have q1 : decide ((q : Int) ≤ (k : Int)) = false := by simp; omega
    have q2 : (k : Int) < (q : Int) := by omega
    go_enter Try.func72, Try.ntmps72
    go_wp2
    go_ret2
    exact ⟨rfl, Gr.alloc _ _⟩
  · obtain ⟨q, hq'⟩ : ∃ q, q = T.length := ⟨_, rfl⟩
    rw [← hq'] at h1 ⊢
    clear hT hq' aT
    by_cases c : n < 0
    · have c' : decide (n < 0) = true := by simpa using c
      go_enter Try.func72, Try.ntmps72
      go_wp2
      go_ret2
      exact ⟨rfl, Gr.alloc _ _⟩
    · have c' : decide (n < 0) = false := by simpa using c
      have q1 : decide ((q : Int) ≤ n) = true := by simp; omega
      go_enter Try.func72, Try.ntmps72
      go_wp2
      go_ret2
      exact ⟨rfl, Gr.alloc _ _⟩

set_option maxRecDepth 100000 in
set_option maxHeartbeats 1000000 in
theorem askedS_any (vT vS : Value) (T : List ByteArray) (S : List Int) (s : ByteArray) (hs : s.size ≤ 9223372036854775807) (w : World) (hT : Sl w vT (T.map Value.string)) (hS : Sl w vS (S.map (Value.int .i64))) (hm : S.length ≤ 1000000000) (hTl : T.length ≤ 1000000000) (hsz : ∀ s ∈ T, s.size ≤ 9223372036854775807)
    (n : Int) (ok : Bool) (e : Int) (he : (¬ Kit.Good hsh T S ∧ e = 150) ∨ (Kit.Good hsh T S ∧ e = if ok then 0 else 4)) (hr : FindR T S s n ok) :
    Calls Try.prog 69 #[.agg #[vT, vS], .func (.func 70) #[.agg #[vT, vS]] #[], .string s] w fun en w' => en = .returned (.tuple #[.int .i64 n, .int .i64 e]) ∧ Gr w w' := by
  have HT := Lib.hid hT
  have HS := Lib.hid hS
  have HZ := Lib.hid hsz
  obtain ⟨oT, cT, rfl, _, _, _⟩ := hT.mshape
  obtain ⟨oS, cS, rfl, _, _, _⟩ := hS.mshape
  clear hT hS hsz
  rcases he with ⟨hg, rfl⟩ | ⟨hg, rfl⟩
  · obtain ⟨rfl, rfl⟩ : n = 0 ∧ ok = false := by
      rcases hr with ⟨h, _⟩ | ⟨_, h2, h3⟩
      · exact (hg h).elim
      · exact ⟨h2, h3⟩
    have HG := Lib.hid hg
    clear hg hr
    go_enter Try.func69, Try.ntmps69
    go_wp2_with (go_at_call 41; refine (check_any _ _ T S _ (HT.out.alloc _) (HS.out.alloc _) hm hTl HZ.out 150 (.inr ⟨HG.out, rfl⟩)).mono ?_; rintro e w' ⟨rfl, g⟩)
    go_ret2
    exact ⟨rfl, (Gr.alloc _ _).trans g⟩
  · have HG := Lib.hid hg
    have HR := Lib.hid hr
    clear hg hr
    go_enter Try.func69, Try.ntmps69
    go_wp2_with (first | (go_at_call 41; refine (check_any _ _ T S _ (HT.out.alloc _) (HS.out.alloc _) hm hTl HZ.out 0 (.inl ⟨HG.out, rfl⟩)).mono ?_; rintro e w' ⟨rfl, g⟩) | (go_at_call 70; refine (number_any _ _ T S s hs _ ((HT.out.alloc _).gr g) ((HS.out.alloc _).gr g) hm hTl HG.out n ok HR.out).mono ?_; rintro e w' ⟨rfl, g2⟩))
    all_goals
      go_ret2
      exact ⟨rfl, ((Gr.alloc _ _).trans g).trans g2⟩
set_option maxRecDepth 100000 in
set_option maxHeartbeats 1000000 in
theorem find_any (vT vS : Value) (T : List ByteArray) (S : List Int) (s : ByteArray) (hs : s.size ≤ 9223372036854775807) (w : World) (hT : Sl w vT (T.map Value.string)) (hS : Sl w vS (S.map (Value.int .i64))) (hm : S.length ≤ 1000000000) (hTl : T.length ≤ 1000000000) (hsz : ∀ s ∈ T, s.size ≤ 9223372036854775807)
    (n : Int) (ok : Bool) (hr : FindR T S s n ok) :
    Calls Try.prog 49 #[.agg #[vT, vS], .string s] w fun en w' => en = .returned (.tuple #[.int .i64 n, .bool ok]) ∧ Gr w w' := by
  have hmf : ∀ (fn : Fn) (first cap : Array Value) (w : World), (Instr.makeFunc fn first cap).run Try.prog w = .ok (.func fn first cap) w := fun _ _ _ _ => rfl
  have HT := Lib.hid hT
  have HS := Lib.hid hS
  have HZ := Lib.hid hsz
  have HR := Lib.hid hr
  obtain ⟨oT, cT, rfl, _, _, _⟩ := hT.mshape
  obtain ⟨oS, cS, rfl, _, _, _⟩ := hS.mshape
  obtain ⟨e, he, heq⟩ : ∃ e : Int, ((¬ Kit.Good hsh T S ∧ e = 150) ∨ (Kit.Good hsh T S ∧ e = if ok then 0 else 4)) ∧ (e == 0) = ok := by
    by_cases hg : Kit.Good hsh T S
    · exact ⟨_, .inr ⟨hg, rfl⟩, by cases ok <;> rfl⟩
    · refine ⟨150, .inl ⟨hg, rfl⟩, ?_⟩
      rcases hr with ⟨h, _⟩ | ⟨_, _, h⟩
      · exact (hg h).elim
      · rw [h]; rfl
  have HE := Lib.hid he
  clear hT hS hsz hr he
  go_enter Try.func49, Try.ntmps49
  go_wp2_with (go_at_call 69; refine (askedS_any _ _ T S s hs _ (HT.out.alloc _) (HS.out.alloc _) hm hTl HZ.out n ok e HE.out HR.out).mono ?_; rintro e w' ⟨rfl, g⟩)
  go_ret2
  exact ⟨rfl, (Gr.alloc _ _).trans g⟩
set_option maxRecDepth 100000 in
set_option maxHeartbeats 1000000 in
theorem askedI_any (vT vS : Value) (T : List ByteArray) (S : List Int) (w : World) (hT : Sl w vT (T.map Value.string)) (hS : Sl w vS (S.map (Value.int .i64))) (hm : S.length ≤ 1000000000) (hTl : T.length ≤ 1000000000) (hsz : ∀ s ∈ T, s.size ≤ 9223372036854775807)
    (n : Int) (r : ByteArray) (e : Int) (hr : TextR T S n r e) :
    Calls Try.prog 71 #[.agg #[vT, vS], .func (.func 72) #[.agg #[vT, vS]] #[], .int .i64 n] w fun en w' => en = .returned (.tuple #[.string r, .int .i64 e]) ∧ Gr w w' := by
  have HT := Lib.hid hT
  have HS := Lib.hid hS
  have HZ := Lib.hid hsz
  obtain ⟨oT, cT, rfl, _, _, _⟩ := hT.mshape
  obtain ⟨oS, cS, rfl, _, _, _⟩ := hS.mshape
  clear hT hS hsz
  have fine : ∀ (hg : Kit.Good hsh T S) (hx : ((∃ h : n.toNat < T.length, 0 ≤ n ∧ r = T[n.toNat]) ∧ e = 0) ∨ (¬ (0 ≤ n ∧ n < (T.length : Int)) ∧ r = ⟨#[]⟩ ∧ e = 4)),
      Calls Try.prog 71 #[.agg #[.slice oT T.length cT, .slice oS S.length cS], .func (.func 72) #[.agg #[.slice oT T.length cT, .slice oS S.length cS]] #[], .int .i64 n] w fun en w' => en = .returned (.tuple #[.string r, .int .i64 e]) ∧ Gr w w' := by
    intro hg hx
    have HG := Lib.hid hg
    have HX := Lib.hid hx
    clear hg hx hr
    go_enter Try.func71, Try.ntmps71
    go_wp2_with (first | (go_at_call 41; refine (check_any _ _ T S _ (HT.out.alloc _) (HS.out.alloc _) hm hTl HZ.out 0 (.inl ⟨HG.out, rfl⟩)).mono ?_; rintro e w' ⟨rfl, g⟩) | (go_at_call 72; refine (text_any _ _ T _ ((HT.out.alloc _).gr g) _ _ _ rfl n r e HX.out).mono ?_; rintro e w' ⟨rfl, g2⟩))
    go_ret2
    exact ⟨rfl, ((Gr.alloc _ _).trans g).trans g2⟩
  rcases hr with ⟨hg, rfl, rfl⟩ | ⟨hg, h2, h3⟩ | ⟨hg, h2, h3⟩
  · clear fine
    have HG := Lib.hid hg
    clear hg
    go_enter Try.func71, Try.ntmps71
    go_wp2_with (go_at_call 41; refine (check_any _ _ T S _ (HT.out.alloc _) (HS.out.alloc _) hm hTl HZ.out 150 (.inr ⟨HG.out, rfl⟩)).mono ?_; rintro e w' ⟨rfl, g⟩)
    go_ret2
    exact ⟨rfl, (Gr.alloc _ _).trans g⟩
  · exact fine hg (.inl ⟨h2, h3⟩)
  · exact fine hg (.inr ⟨h2, h3⟩)
set_option maxRecDepth 100000 in
set_option maxHeartbeats 1000000 in
theorem texts_any (vT vS : Value) (T : List ByteArray) (S : List Int) (w : World) (hT : Sl w vT (T.map Value.string)) (hS : Sl w vS (S.map (Value.int .i64))) (hm : S.length ≤ 1000000000) (hTl : T.length ≤ 1000000000) (hsz : ∀ s ∈ T, s.size ≤ 9223372036854775807)
    (n : Int) (r : ByteArray) (e : Int) (hr : TextR T S n r e) :
    Calls Try.prog 51 #[.agg #[vT, vS], .int .i64 n] w fun en w' => en = .returned (.tuple #[.string r, .int .i64 e]) ∧ Gr w w' := by
  have hmf : ∀ (fn : Fn) (first cap : Array Value) (w : World), (Instr.makeFunc fn first cap).run Try.prog w = .ok (.func fn first cap) w := fun _ _ _ _ => rfl
  have HT := Lib.hid hT
  have HS := Lib.hid hS
  have HZ := Lib.hid hsz
  have HR := Lib.hid hr
  obtain ⟨oT, cT, rfl, _, _, _⟩ := hT.mshape
  obtain ⟨oS, cS, rfl, _, _, _⟩ := hS.mshape
  clear hT hS hsz hr
  go_enter Try.func51, Try.ntmps51
  go_wp2_with (go_at_call 71; refine (askedI_any _ _ T S _ (HT.out.alloc _) (HS.out.alloc _) hm hTl HZ.out n r e HR.out).mono ?_; rintro e w' ⟨rfl, g⟩)
  go_ret2
  exact ⟨rfl, (Gr.alloc _ _).trans g⟩
end Go.Proofs.Ytmghbejbdkoehaa

