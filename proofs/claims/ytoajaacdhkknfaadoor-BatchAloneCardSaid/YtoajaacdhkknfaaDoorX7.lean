/- The line of a change: lineOf. -/
import Derived.Test.YtoajaacdhkknfaaDoorX5
import Derived.Test.YtoajaacdhkknfaaDoorX8
import Derived.Test.YtoajaacdhkknfaaDoorTk0
namespace Go.Proofs.Kit
open Go.RowKit
theorem Blk.four {w : World} {b : Nat} {x y z u : Value} {t : TypeId} (h : Blk w b #[x, y, z, u] t) : w.cell? ⟨b, 0, none⟩ = some x ∧ w.cell? ⟨b, 1, none⟩ = some y ∧ w.cell? ⟨b, 2, none⟩ = some z ∧ w.cell? ⟨b, 3, none⟩ = some u ∧ w.frozen? ⟨b, 0, none⟩ = false ∧ w.frozen? ⟨b, 1, none⟩ = false ∧ w.frozen? ⟨b, 2, none⟩ = false ∧ w.frozen? ⟨b, 3, none⟩ = false ∧ b < w.heap.size :=
  ⟨h.cell 0, h.cell 1, h.cell 2, h.cell 3, h.frozen 0, h.frozen 1, h.frozen 2, h.frozen 3, h.lt⟩
theorem Blk.twof {w : World} {b : Nat} {x y : Value} {t : TypeId} (h : Blk w b #[x, y] t) : w.cell? ⟨b, 0, none⟩ = some x ∧ w.cell? ⟨b, 1, none⟩ = some y ∧ w.frozen? ⟨b, 0, none⟩ = false ∧ w.frozen? ⟨b, 1, none⟩ = false ∧ b < w.heap.size := ⟨h.cell 0, h.cell 1, h.frozen 0, h.frozen 1, h.lt⟩
theorem Blk.five {w : World} {b : Nat} {x y z u v : Value} {t : TypeId} (h : Blk w b #[x, y, z, u, v] t) : w.cell? ⟨b, 0, none⟩ = some x ∧ w.cell? ⟨b, 1, none⟩ = some y ∧ w.cell? ⟨b, 2, none⟩ = some z ∧ w.cell? ⟨b, 3, none⟩ = some u ∧ w.cell? ⟨b, 4, none⟩ = some v := ⟨h.cell 0, h.cell 1, h.cell 2, h.cell 3, h.cell 4⟩
theorem nameK {K : Act → World → Prop} {a : Act} {W : World} (h : ∀ W', W' = W → K a W') : K a W := h W rfl
/-- How a line tells a part. -/
def wordP (p : Int) (s : List UInt8) : List UInt8 := if p = 2 then 34 :: s ++ [34] else s
def outL (k : Nat) (c : Chg) (j : Nat) : List UInt8 := wordN k ++ (((hasL k).take j).map fun p => 32 :: wordP p (bl (c.part p.toNat))).flatten
theorem outL_succ {k : Nat} {c : Chg} {j : Nat} (h : j < (hasL k).length) : outL k c (j + 1) = outL k c j ++ 32 :: wordP (hasL k)[j] (bl (c.part (hasL k)[j].toNat)) := by
  rw [outL, List.take_succ_eq_append_getElem h, List.map_append, List.flatten_append, ← List.append_assoc, ← outL]
  rw [List.map_singleton, List.flatten_singleton]
theorem outL_all {k : Nat} {key name val dst : ByteArray} (h1 : 1 ≤ k) (h8 : k ≤ 8) : outL k ⟨k, key, name, val, dst⟩ (hasL k).length = lineL ⟨k, key, name, val, dst⟩ := by
  rcases eight h1 h8 with rfl | rfl | rfl | rfl | rfl | rfl | rfl | rfl
  · show wordN 1 ++ (32 :: bl key ++ []) = wordN 1 ++ 32 :: bl key ++ [] ++ [] ++ []
    simp only [List.append_nil]
  · show wordN 2 ++ (32 :: bl key ++ []) = wordN 2 ++ 32 :: bl key ++ [] ++ [] ++ []
    simp only [List.append_nil]
  · show wordN 3 ++ (32 :: bl key ++ (32 :: bl name ++ [])) = wordN 3 ++ 32 :: bl key ++ 32 :: bl name ++ [] ++ []
    simp only [List.append_nil, List.append_assoc, List.cons_append]
  · show wordN 4 ++ (32 :: bl key ++ (32 :: bl name ++ [])) = wordN 4 ++ 32 :: bl key ++ 32 :: bl name ++ [] ++ []
    simp only [List.append_nil, List.append_assoc, List.cons_append]
  · show wordN 5 ++ (32 :: bl key ++ (32 :: bl name ++ (32 :: (34 :: bl val ++ [34]) ++ []))) = wordN 5 ++ 32 :: bl key ++ 32 :: bl name ++ (32 :: 34 :: bl val ++ [34]) ++ []
    simp only [List.append_nil, List.append_assoc, List.cons_append]
  · show wordN 6 ++ (32 :: bl key ++ (32 :: bl name ++ [])) = wordN 6 ++ 32 :: bl key ++ 32 :: bl name ++ [] ++ []
    simp only [List.append_nil, List.append_assoc, List.cons_append]
  · show wordN 7 ++ (32 :: bl key ++ (32 :: bl name ++ (32 :: bl dst ++ []))) = wordN 7 ++ 32 :: bl key ++ 32 :: bl name ++ [] ++ 32 :: bl dst
    simp only [List.append_nil, List.append_assoc, List.cons_append]
  · show wordN 8 ++ (32 :: bl key ++ (32 :: bl name ++ (32 :: bl dst ++ []))) = wordN 8 ++ 32 :: bl key ++ 32 :: bl name ++ [] ++ 32 :: bl dst
    simp only [List.append_nil, List.append_assoc, List.cons_append]
theorem hasL_lt {k : Nat} {j : Nat} (h : j < (hasL k).length) : ∃ p : Nat, p < 4 ∧ (hasL k)[j] = (p : Int) := by
  have : ∀ x ∈ hasL k, 0 ≤ x ∧ x < 4 := by
    unfold hasL
    split <;> decide
  have := this _ (List.getElem_mem h)
  exact ⟨(hasL k)[j].toNat, by omega, by omega⟩
theorem wordP_len (p : Int) (s : List UInt8) : (wordP p s).length ≤ s.length + 2 := by unfold wordP; split <;> simp
theorem hasL_len (k : Nat) : (hasL k).length ≤ 3 := by unfold hasL; split <;> decide
abbrev z3 : Array Value := #[.string ⟨#[]⟩, .slice none 0 0]
abbrev z4 : Array Value := #[.string ⟨#[]⟩, .string ⟨#[]⟩, .string ⟨#[]⟩, .string ⟨#[]⟩]
end Go.Proofs.Kit
namespace Go.Proofs.YtoajaacdhkknfaaDoor
open Go.RowKit Go.Proofs.Kit Go.Shelf
theorem kinds_atB (k n : Nat) (h1 : 1 ≤ k) (h8 : k ≤ 8) (hn : (hasL k).length = n) (w : World) : Calls Tryd.prog 30 #[] w fun e w' => ∃ A B, e = .returned (.agg A) ∧ (∀ w, (Instr.index 76 (.agg A) (.int .i64 (k : Int))).run Tryd.prog w = .ok (.agg #[.string (lb (wordN k)), .slice (some ⟨B + k, 0, none⟩) n n]) w) ∧ KindsB 69 B w' ∧ Gr w w' := by
  refine (kinds_blk w).mono ?_
  rintro e w' ⟨rfl, hk, hg⟩
  obtain ⟨i, hi, hs⟩ := infoKind
  refine ⟨_, _, rfl, fun W => ?_, hk, hg⟩
  rw [run_index_struct (sz := 2) _ k W Tryd.underlying76 Tryd.underlying59 hi hs (by omega), KA_at _ k h1 h8, hasV, hn]
set_option maxRecDepth 100000 in
set_option maxHeartbeats 1000000 in
theorem word_any (p : Nat) (s : ByteArray) (hs : s.size ≤ 40) (w : World) : Calls Tryd.prog 32 #[.int .i64 (p : Int), .string s] w fun e w' => e = .returned (.string (lb (wordP p (bl s)))) ∧ w' = w := by
  by_cases h : p = 2
  · subst h
    have HR := Lib.hid (show lb (wordP ((2 : Nat) : Int) (bl s)) = lb [34] ++ s ++ lb [34] from bl_inj (by simp [wordP]))
    obtain ⟨v, hv⟩ : ∃ v, v = lb (wordP ((2 : Nat) : Int) (bl s)) := ⟨_, rfl⟩
    rw [← hv] at HR ⊢
    show Calls Tryd.prog 32 #[.int .i64 2, .string s] w fun e w' => e = .returned (.string v) ∧ w' = w
    clear hv
    go_enter Tryd.func32, Tryd.ntmps32
    go_wp2
    go_ret
    exact ⟨by rw [HR.out]; rfl, rfl⟩
  · have HR := Lib.hid (show lb (wordP (p : Int) (bl s)) = s from bl_inj (by rw [bl_lb, wordP, if_neg (by omega)]))
    have d : ((p : Int) == 2) = false := by simp; omega
    clear h
    go_enter Tryd.func32, Tryd.ntmps32
    go_wp2
    go_ret
    exact ⟨by rw [HR.out]; rfl, rfl⟩
set_option maxRecDepth 100000 in
set_option maxHeartbeats 8000000 in
theorem lineOf_any (k : Nat) (key name val dst : ByteArray) (h1 : 1 ≤ k) (h8 : k ≤ 8) (hr : rightB ⟨k, key, name, val, dst⟩ = true) (w : World) :
    Calls Tryd.prog 16 #[CV ⟨k, key, name, val, dst⟩] w fun e w' => e = .returned (.string (lineB ⟨k, key, name, val, dst⟩)) ∧ Below w.heap.size w w' := by
  obtain ⟨n, hn⟩ : ∃ n, n = (hasL k).length := ⟨_, rfl⟩
  have HK := Lib.hid (fun W => kinds_atB k n h1 h8 hn.symm W)
  have HX := Lib.hid (fun (j : Nat) (hj : j < 4) w => index4 key name val dst j hj k w)
  have HP := Lib.hid (fun W => partsOf_any ⟨k, key, name, val, dst⟩ W)
  obtain ⟨u, hu⟩ : ∃ u, u = lb (wordN k) := ⟨_, rfl⟩
  rw [← hu] at HK
  have HU := Lib.hid hu
  have HN := Lib.hid hn
  have HR := Lib.hid hr
  have H8 := Lib.hid (And.intro h1 h8)
  clear hn hu h1 h8 hr
  go_enter Tryd.func16, Tryd.ntmps16
  go_upto_region 1 with (fail)
  obtain ⟨W1, hW1⟩ : ∃ W1, W1 = w.alloc (.cells #[.int .i64 (k : Int), .string key, .string name, .string val, .string dst] 31) := ⟨_, rfl⟩
  have b1 : Blk W1 w.heap.size #[.int .i64 (k : Int), .string key, .string name, .string val, .string dst] 31 := by rw [hW1]; exact Blk.new _ _ _
  have g1 : Gr w W1 := by rw [hW1]; exact Gr.alloc _ _
  rw [← hW1]
  clear hW1
  have G1 := Lib.hid g1.below
  have lb1 := b1.lt
  go_cut [3, 4] (fun s3 s4 wc => Hid (∃ g g' B, s3 = .pointer (some ⟨g, 0, none⟩) ∧ s4 = .pointer (some ⟨g', 0, none⟩) ∧ Blk wc g #[.string u, .slice (some ⟨B + k, 0, none⟩) n n] 59 ∧ Blk wc g' #[.string key, .string name, .string val, .string dst] 78 ∧ KindsB 69 B wc) ∧ Hid (Below W1.heap.size W1 wc))
  case first =>
    obtain ⟨e0, e1, e2, e3, e4⟩ := b1.five
    have hws : Below W1.heap.size W1 W1 := Below.refl _ _
    have HKP := Lib.hid (fun W' (h : Below W1.heap.size W1 W') => And.intro (b1.later h).five h)
    clear b1 g1
    refine wp_region_held_drew (S := (fun w' => (w'.cell? ⟨w.heap.size, 0, none⟩ = some (.int .i64 (k : Int)) ∧ w'.cell? ⟨w.heap.size, 1, none⟩ = some (.string key) ∧ w'.cell? ⟨w.heap.size, 2, none⟩ = some (.string name) ∧ w'.cell? ⟨w.heap.size, 3, none⟩ = some (.string val) ∧ w'.cell? ⟨w.heap.size, 4, none⟩ = some (.string dst)) ∧ Below W1.heap.size W1 w')) (by kernel_rfl) ?_ (fun hHeld => ?_)
    · exact HKP.out _ hws.drew
    obtain ⟨X, hX⟩ : ∃ X, X = W1.drew := ⟨_, rfl⟩
    rw [← hX] at hHeld ⊢
    have bc := (by rw [hX]; exact hws.drew : Below W1.heap.size W1 X)
    clear hX hws
    refine takeOn 1 { dst := some 9, op := Op.fieldAddr 31 (Operand.tmp 1) 0, type := 0, pos := "lines.go:47", after := #[], guard := none } (v := ?v0) rfl (by kernel_rfl) (by kernel_rfl) (by kernel_rfl) (fun _ _ _ h => h) (by rfl) (by assumption) ?yv0 ?_
    case yv0 =>
      intro w hSw
      try dsimp only at hSw
      go_simp
      try (with_reducible rfl)
    try simp only [Act.put, List.setIfInBounds_toArray, List.set_cons_zero, List.set_cons_succ]
    refine takeOn 2 { dst := some 10, op := Op.load 3 (Operand.tmp 9), type := 3, pos := "lines.go:47", after := #[{ on := 1, ground := Ground.data }], guard := none } (v := ?v1) rfl (by kernel_rfl) (by kernel_rfl) (by kernel_rfl) (fun _ _ _ h => h) (by rfl) (by assumption) ?yv1 ?_
    case yv1 =>
      intro w hSw
      try dsimp only at hSw
      go_simp
      try (with_reducible rfl)
    try simp only [Act.put, List.setIfInBounds_toArray, List.set_cons_zero, List.set_cons_succ]
    refine takeOn 4 { dst := some 12, op := Op.load 31 (Operand.tmp 1), type := 31, pos := "lines.go:47", after := #[], guard := none } (v := ?v2) rfl (by kernel_rfl) (by kernel_rfl) (by kernel_rfl) (fun _ _ _ h => h) (by rfl) (by assumption) ?yv2 ?_
    case yv2 =>
      intro w hSw
      try dsimp only at hSw
      go_simp
      try (with_reducible rfl)
    try simp only [Act.put, List.setIfInBounds_toArray, List.set_cons_zero, List.set_cons_succ]
    refine wpAnyH_ready (rs := [0, 6, 7]) (by kernel_rfl) (by simp) ?_
    refine (AllReadyH.cons (o := { dst := some 8, op := Op.call { callee := Callee.value (Operand.func 30), args := #[], argTypes := #[] }, type := 76, pos := "lines.go:47", after := #[], guard := none }) rfl (fun K hK => ?_) (AllReadyH.cons (o := { dst := some 3, op := Op.alloc 59, type := 0, pos := "lines.go:47", after := #[], guard := none }) rfl (fun K hK => ?_) (AllReadyH.cons (o := { dst := some 4, op := Op.alloc 78, type := 0, pos := "lines.go:47", after := #[], guard := none }) rfl (fun K hK => ?_) AllReadyH.nil)))
    · skip
      go_simp
      go_at_call 30
      (with_reducible refine (HK.out _).mono ?_)
      rintro e X ⟨A, B, rfl, hix, hK0, hg⟩
      have bc := bc.trans (hg.below.mono bc.size)
      clear hg
      refine hK.out _ _ ?_ (fun hHeld => ?_)
      · exact HKP.out _ bc
      clear hK K
      try simp only [Act.put, List.setIfInBounds_toArray, List.set_cons_zero, List.set_cons_succ]
      refine takeOn 3 { dst := some 11, op := Op.index 76 (Operand.tmp 8) (Operand.tmp 10), type := 59, pos := "lines.go:47", after := #[{ on := 0, ground := Ground.data }, { on := 2, ground := Ground.data }], guard := none } (v := ?v3) rfl (by kernel_rfl) (by kernel_rfl) (by kernel_rfl) (fun _ _ _ h => h) (by rfl) (by assumption) ?yv3 ?_
      case yv3 =>
        intro w hSw
        try dsimp only at hSw
        go_simp
        try (with_reducible rfl)
      try simp only [Act.put, List.setIfInBounds_toArray, List.set_cons_zero, List.set_cons_succ]
      refine wpAnyH_ready (rs := [5, 6, 7]) (by kernel_rfl) (by simp) ?_
      refine (AllReadyH.cons (o := { dst := some 13, op := Op.call { callee := Callee.value (Operand.func 31), args := #[Operand.tmp 12], argTypes := #[31] }, type := 78, pos := "lines.go:47", after := #[{ on := 4, ground := Ground.data }, { on := 0, ground := Ground.chain }], guard := none }) rfl (fun K hK => ?_) (AllReadyH.cons (o := { dst := some 3, op := Op.alloc 59, type := 0, pos := "lines.go:47", after := #[], guard := none }) rfl (fun K hK => ?_) (AllReadyH.cons (o := { dst := some 4, op := Op.alloc 78, type := 0, pos := "lines.go:47", after := #[], guard := none }) rfl (fun K hK => ?_) AllReadyH.nil)))
      · skip
        go_simp
        go_at_call 31
        (with_reducible refine (HP.out _).mono ?_)
        rintro e X ⟨rfl, hg⟩
        have bc := bc.trans (hg.below.mono bc.size)
        have hK0 := hK0.later hg.below
        clear hg
        refine hK.out _ _ ?_ (fun hHeld => ?_)
        · exact HKP.out _ bc
        clear hK K
        skip
        refine wpAnyH_ready (rs := [6, 7]) (by kernel_rfl) (by simp) ?_
        refine (AllReadyH.cons (o := { dst := some 3, op := Op.alloc 59, type := 0, pos := "lines.go:47", after := #[], guard := none }) rfl (fun K hK => ?_) (AllReadyH.cons (o := { dst := some 4, op := Op.alloc 78, type := 0, pos := "lines.go:47", after := #[], guard := none }) rfl (fun K hK => ?_) AllReadyH.nil))
        · skip
          have gA := bc.size
          go_simp
          refine nameK ?_
          intro X hX
          have bc := (by rw [hX]; exact bc.alloc bc.size _ : Below W1.heap.size W1 X)
          have hK0 := (by rw [hX]; exact hK0.later (Gr.alloc _ _).below : KindsB 69 B X)
          have hA := (by rw [hX]; exact Blk.new _ _ _ : Blk X _ z3 59)
          clear hX
          refine hK.out _ _ ?_ (fun hHeld => ?_)
          · exact HKP.out _ bc
          clear hK K
          try simp only [Act.put, List.setIfInBounds_toArray, List.set_cons_zero, List.set_cons_succ]
          refine wpAnyH_ready (rs := [7]) (by kernel_rfl) (by simp) ?_
          refine (AllReadyH.cons (o := { dst := some 4, op := Op.alloc 78, type := 0, pos := "lines.go:47", after := #[], guard := none }) rfl (fun K hK => ?_) AllReadyH.nil)
          · skip
            have gB := bc.size
            go_simp
            refine nameK ?_
            intro X hX
            have bc := (by rw [hX]; exact bc.alloc bc.size _ : Below W1.heap.size W1 X)
            have hA := (by rw [hX]; exact hA.alloc _ : Blk X _ _ _)
            have hK0 := (by rw [hX]; exact hK0.later (Gr.alloc _ _).below : KindsB 69 B X)
            have hB := (by rw [hX]; exact Blk.new _ _ _ : Blk X _ z4 78)
            clear hX
            refine hK.out _ _ ?_ (fun hHeld => ?_)
            · exact HKP.out _ bc
            clear hK K
            try simp only [Act.put, List.setIfInBounds_toArray, List.set_cons_zero, List.set_cons_succ]
            refine wpAnyH_ready (rs := [8]) (by kernel_rfl) (by simp) ?_
            refine (AllReadyH.cons (o := { dst := none, op := Op.store 59 (Operand.tmp 3) (Operand.tmp 11), type := 0, pos := "lines.go:47", after := #[{ on := 6, ground := Ground.data }, { on := 3, ground := Ground.data }, { on := 5, ground := Ground.chain }, { on := 0, ground := Ground.phase }, { on := 1, ground := Ground.phase }, { on := 2, ground := Ground.phase }, { on := 3, ground := Ground.phase }, { on := 4, ground := Ground.textOnly Departure.lateStores }, { on := 5, ground := Ground.textOnly Departure.lateStoresUnsure }, { on := 6, ground := Ground.phase }, { on := 7, ground := Ground.phase }], guard := none }) rfl (fun K hK => ?_) AllReadyH.nil)
            · skip
              obtain ⟨a0, a1, az0, az1, al⟩ := hA.twof
              go_simp
              refine nameK ?_
              intro X hX
              have hne := hB.ne_t hA (by decide)
              have hB := (by rw [hX]; exact (hB.other hne _).other hne _ : Blk X _ _ _)
              have hK0 := (by rw [hX]; exact (hK0.other hA (by decide) _ _).other (hA.set 0 (.string u)) (by decide) _ _ : KindsB 69 B X)
              have bc := (by rw [hX]; exact (bc.setCell gA _).setCell gA _ : Below W1.heap.size W1 X)
              have hA := (by rw [hX]; have := (hA.set 0 (.string u)).set 1 (.slice (some ⟨B + k, 0, none⟩) n n); simpa using this : Blk X _ #[.string u, .slice (some ⟨B + k, 0, none⟩) n n] 59)
              clear hX hne a0 a1 az0 az1 al
              refine hK.out _ _ ?_ (fun hHeld => ?_)
              · exact HKP.out _ bc
              clear hK K
              try simp only [Act.put, List.setIfInBounds_toArray, List.set_cons_zero, List.set_cons_succ]
              refine wpAnyH_ready (rs := [9]) (by kernel_rfl) (by simp) ?_
              refine (AllReadyH.cons (o := { dst := none, op := Op.store 78 (Operand.tmp 4) (Operand.tmp 13), type := 0, pos := "lines.go:47", after := #[{ on := 7, ground := Ground.data }, { on := 5, ground := Ground.data }, { on := 8, ground := Ground.chain }, { on := 0, ground := Ground.phase }, { on := 1, ground := Ground.phase }, { on := 2, ground := Ground.phase }, { on := 3, ground := Ground.phase }, { on := 4, ground := Ground.phase }, { on := 5, ground := Ground.phase }, { on := 6, ground := Ground.phase }, { on := 7, ground := Ground.phase }, { on := 8, ground := Ground.phase }], guard := none }) rfl (fun K hK => ?_) AllReadyH.nil)
              · skip
                obtain ⟨p0, p1, p2, p3, pz0, pz1, pz2, pz3, pl⟩ := hB.four
                go_simp
                refine nameK ?_
                intro X hX
                have hne := hA.ne_t hB (by decide)
                have hA := (by rw [hX]; exact (((hA.other hne _).other hne _).other hne _).other hne _ : Blk X _ _ _)
                have hK0 := (by rw [hX]; exact (((hK0.other hB (by decide) _ _).other (hB.set 0 (.string key)) (by decide) _ _).other ((hB.set 0 (.string key)).set 1 (.string name)) (by decide) _ _).other (((hB.set 0 (.string key)).set 1 (.string name)).set 2 (.string val)) (by decide) _ _ : KindsB 69 B X)
                have bc := (by rw [hX]; exact (((bc.setCell gB _).setCell gB _).setCell gB _).setCell gB _ : Below W1.heap.size W1 X)
                have hB := (by rw [hX]; have := (((hB.set 0 (.string key)).set 1 (.string name)).set 2 (.string val)).set 3 (.string dst); simpa using this : Blk X _ #[.string key, .string name, .string val, .string dst] 78)
                clear hX hne p0 p1 p2 p3 pz0 pz1 pz2 pz3 pl
                refine hK.out _ _ ?_ (fun hHeld => ?_)
                · exact HKP.out _ bc
                clear hK K
                try simp only [Act.put, List.setIfInBounds_toArray, List.set_cons_zero, List.set_cons_succ]
                refine wpAnyH_done (by kernel_rfl) ?_ _
                go_wp2
                go_meet
                exact ⟨Lib.hid ⟨_, _, B, rfl, rfl, hA, hB, hK0⟩, Lib.hid bc⟩
        · skip
          have gB := bc.size
          go_simp
          refine nameK ?_
          intro X hX
          have bc := (by rw [hX]; exact bc.alloc bc.size _ : Below W1.heap.size W1 X)
          have hK0 := (by rw [hX]; exact hK0.later (Gr.alloc _ _).below : KindsB 69 B X)
          have hB := (by rw [hX]; exact Blk.new _ _ _ : Blk X _ z4 78)
          clear hX
          refine hK.out _ _ ?_ (fun hHeld => ?_)
          · exact HKP.out _ bc
          clear hK K
          try simp only [Act.put, List.setIfInBounds_toArray, List.set_cons_zero, List.set_cons_succ]
          refine wpAnyH_ready (rs := [6]) (by kernel_rfl) (by simp) ?_
          refine (AllReadyH.cons (o := { dst := some 3, op := Op.alloc 59, type := 0, pos := "lines.go:47", after := #[], guard := none }) rfl (fun K hK => ?_) AllReadyH.nil)
          · skip
            have gA := bc.size
            go_simp
            refine nameK ?_
            intro X hX
            have bc := (by rw [hX]; exact bc.alloc bc.size _ : Below W1.heap.size W1 X)
            have hB := (by rw [hX]; exact hB.alloc _ : Blk X _ _ _)
            have hK0 := (by rw [hX]; exact hK0.later (Gr.alloc _ _).below : KindsB 69 B X)
            have hA := (by rw [hX]; exact Blk.new _ _ _ : Blk X _ z3 59)
            clear hX
            refine hK.out _ _ ?_ (fun hHeld => ?_)
            · exact HKP.out _ bc
            clear hK K
            try simp only [Act.put, List.setIfInBounds_toArray, List.set_cons_zero, List.set_cons_succ]
            refine wpAnyH_ready (rs := [8]) (by kernel_rfl) (by simp) ?_
            refine (AllReadyH.cons (o := { dst := none, op := Op.store 59 (Operand.tmp 3) (Operand.tmp 11), type := 0, pos := "lines.go:47", after := #[{ on := 6, ground := Ground.data }, { on := 3, ground := Ground.data }, { on := 5, ground := Ground.chain }, { on := 0, ground := Ground.phase }, { on := 1, ground := Ground.phase }, { on := 2, ground := Ground.phase }, { on := 3, ground := Ground.phase }, { on := 4, ground := Ground.textOnly Departure.lateStores }, { on := 5, ground := Ground.textOnly Departure.lateStoresUnsure }, { on := 6, ground := Ground.phase }, { on := 7, ground := Ground.phase }], guard := none }) rfl (fun K hK => ?_) AllReadyH.nil)
            · skip
              obtain ⟨a0, a1, az0, az1, al⟩ := hA.twof
              go_simp
              refine nameK ?_
              intro X hX
              have hne := hB.ne_t hA (by decide)
              have hB := (by rw [hX]; exact (hB.other hne _).other hne _ : Blk X _ _ _)
              have hK0 := (by rw [hX]; exact (hK0.other hA (by decide) _ _).other (hA.set 0 (.string u)) (by decide) _ _ : KindsB 69 B X)
              have bc := (by rw [hX]; exact (bc.setCell gA _).setCell gA _ : Below W1.heap.size W1 X)
              have hA := (by rw [hX]; have := (hA.set 0 (.string u)).set 1 (.slice (some ⟨B + k, 0, none⟩) n n); simpa using this : Blk X _ #[.string u, .slice (some ⟨B + k, 0, none⟩) n n] 59)
              clear hX hne a0 a1 az0 az1 al
              refine hK.out _ _ ?_ (fun hHeld => ?_)
              · exact HKP.out _ bc
              clear hK K
              try simp only [Act.put, List.setIfInBounds_toArray, List.set_cons_zero, List.set_cons_succ]
              refine wpAnyH_ready (rs := [9]) (by kernel_rfl) (by simp) ?_
              refine (AllReadyH.cons (o := { dst := none, op := Op.store 78 (Operand.tmp 4) (Operand.tmp 13), type := 0, pos := "lines.go:47", after := #[{ on := 7, ground := Ground.data }, { on := 5, ground := Ground.data }, { on := 8, ground := Ground.chain }, { on := 0, ground := Ground.phase }, { on := 1, ground := Ground.phase }, { on := 2, ground := Ground.phase }, { on := 3, ground := Ground.phase }, { on := 4, ground := Ground.phase }, { on := 5, ground := Ground.phase }, { on := 6, ground := Ground.phase }, { on := 7, ground := Ground.phase }, { on := 8, ground := Ground.phase }], guard := none }) rfl (fun K hK => ?_) AllReadyH.nil)
              · skip
                obtain ⟨p0, p1, p2, p3, pz0, pz1, pz2, pz3, pl⟩ := hB.four
                go_simp
                refine nameK ?_
                intro X hX
                have hne := hA.ne_t hB (by decide)
                have hA := (by rw [hX]; exact (((hA.other hne _).other hne _).other hne _).other hne _ : Blk X _ _ _)
                have hK0 := (by rw [hX]; exact (((hK0.other hB (by decide) _ _).other (hB.set 0 (.string key)) (by decide) _ _).other ((hB.set 0 (.string key)).set 1 (.string name)) (by decide) _ _).other (((hB.set 0 (.string key)).set 1 (.string name)).set 2 (.string val)) (by decide) _ _ : KindsB 69 B X)
                have bc := (by rw [hX]; exact (((bc.setCell gB _).setCell gB _).setCell gB _).setCell gB _ : Below W1.heap.size W1 X)
                have hB := (by rw [hX]; have := (((hB.set 0 (.string key)).set 1 (.string name)).set 2 (.string val)).set 3 (.string dst); simpa using this : Blk X _ #[.string key, .string name, .string val, .string dst] 78)
                clear hX hne p0 p1 p2 p3 pz0 pz1 pz2 pz3 pl
                refine hK.out _ _ ?_ (fun hHeld => ?_)
                · exact HKP.out _ bc
                clear hK K
                try simp only [Act.put, List.setIfInBounds_toArray, List.set_cons_zero, List.set_cons_succ]
                refine wpAnyH_done (by kernel_rfl) ?_ _
                go_wp2
                go_meet
                exact ⟨Lib.hid ⟨_, _, B, rfl, rfl, hA, hB, hK0⟩, Lib.hid bc⟩
      · skip
        have gA := bc.size
        go_simp
        refine nameK ?_
        intro X hX
        have bc := (by rw [hX]; exact bc.alloc bc.size _ : Below W1.heap.size W1 X)
        have hK0 := (by rw [hX]; exact hK0.later (Gr.alloc _ _).below : KindsB 69 B X)
        have hA := (by rw [hX]; exact Blk.new _ _ _ : Blk X _ z3 59)
        clear hX
        refine hK.out _ _ ?_ (fun hHeld => ?_)
        · exact HKP.out _ bc
        clear hK K
        try simp only [Act.put, List.setIfInBounds_toArray, List.set_cons_zero, List.set_cons_succ]
        refine wpAnyH_ready (rs := [5, 7]) (by kernel_rfl) (by simp) ?_
        refine (AllReadyH.cons (o := { dst := some 13, op := Op.call { callee := Callee.value (Operand.func 31), args := #[Operand.tmp 12], argTypes := #[31] }, type := 78, pos := "lines.go:47", after := #[{ on := 4, ground := Ground.data }, { on := 0, ground := Ground.chain }], guard := none }) rfl (fun K hK => ?_) (AllReadyH.cons (o := { dst := some 4, op := Op.alloc 78, type := 0, pos := "lines.go:47", after := #[], guard := none }) rfl (fun K hK => ?_) AllReadyH.nil))
        · skip
          go_simp
          go_at_call 31
          (with_reducible refine (HP.out _).mono ?_)
          rintro e X ⟨rfl, hg⟩
          have bc := bc.trans (hg.below.mono bc.size)
          have hK0 := hK0.later hg.below
          have hA := hA.gr hg
          clear hg
          refine hK.out _ _ ?_ (fun hHeld => ?_)
          · exact HKP.out _ bc
          clear hK K
          skip
          refine wpAnyH_ready (rs := [7]) (by kernel_rfl) (by simp) ?_
          refine (AllReadyH.cons (o := { dst := some 4, op := Op.alloc 78, type := 0, pos := "lines.go:47", after := #[], guard := none }) rfl (fun K hK => ?_) AllReadyH.nil)
          · skip
            have gB := bc.size
            go_simp
            refine nameK ?_
            intro X hX
            have bc := (by rw [hX]; exact bc.alloc bc.size _ : Below W1.heap.size W1 X)
            have hA := (by rw [hX]; exact hA.alloc _ : Blk X _ _ _)
            have hK0 := (by rw [hX]; exact hK0.later (Gr.alloc _ _).below : KindsB 69 B X)
            have hB := (by rw [hX]; exact Blk.new _ _ _ : Blk X _ z4 78)
            clear hX
            refine hK.out _ _ ?_ (fun hHeld => ?_)
            · exact HKP.out _ bc
            clear hK K
            try simp only [Act.put, List.setIfInBounds_toArray, List.set_cons_zero, List.set_cons_succ]
            refine wpAnyH_ready (rs := [8]) (by kernel_rfl) (by simp) ?_
            refine (AllReadyH.cons (o := { dst := none, op := Op.store 59 (Operand.tmp 3) (Operand.tmp 11), type := 0, pos := "lines.go:47", after := #[{ on := 6, ground := Ground.data }, { on := 3, ground := Ground.data }, { on := 5, ground := Ground.chain }, { on := 0, ground := Ground.phase }, { on := 1, ground := Ground.phase }, { on := 2, ground := Ground.phase }, { on := 3, ground := Ground.phase }, { on := 4, ground := Ground.textOnly Departure.lateStores }, { on := 5, ground := Ground.textOnly Departure.lateStoresUnsure }, { on := 6, ground := Ground.phase }, { on := 7, ground := Ground.phase }], guard := none }) rfl (fun K hK => ?_) AllReadyH.nil)
            · skip
              obtain ⟨a0, a1, az0, az1, al⟩ := hA.twof
              go_simp
              refine nameK ?_
              intro X hX
              have hne := hB.ne_t hA (by decide)
              have hB := (by rw [hX]; exact (hB.other hne _).other hne _ : Blk X _ _ _)
              have hK0 := (by rw [hX]; exact (hK0.other hA (by decide) _ _).other (hA.set 0 (.string u)) (by decide) _ _ : KindsB 69 B X)
              have bc := (by rw [hX]; exact (bc.setCell gA _).setCell gA _ : Below W1.heap.size W1 X)
              have hA := (by rw [hX]; have := (hA.set 0 (.string u)).set 1 (.slice (some ⟨B + k, 0, none⟩) n n); simpa using this : Blk X _ #[.string u, .slice (some ⟨B + k, 0, none⟩) n n] 59)
              clear hX hne a0 a1 az0 az1 al
              refine hK.out _ _ ?_ (fun hHeld => ?_)
              · exact HKP.out _ bc
              clear hK K
              try simp only [Act.put, List.setIfInBounds_toArray, List.set_cons_zero, List.set_cons_succ]
              refine wpAnyH_ready (rs := [9]) (by kernel_rfl) (by simp) ?_
              refine (AllReadyH.cons (o := { dst := none, op := Op.store 78 (Operand.tmp 4) (Operand.tmp 13), type := 0, pos := "lines.go:47", after := #[{ on := 7, ground := Ground.data }, { on := 5, ground := Ground.data }, { on := 8, ground := Ground.chain }, { on := 0, ground := Ground.phase }, { on := 1, ground := Ground.phase }, { on := 2, ground := Ground.phase }, { on := 3, ground := Ground.phase }, { on := 4, ground := Ground.phase }, { on := 5, ground := Ground.phase }, { on := 6, ground := Ground.phase }, { on := 7, ground := Ground.phase }, { on := 8, ground := Ground.phase }], guard := none }) rfl (fun K hK => ?_) AllReadyH.nil)
              · skip
                obtain ⟨p0, p1, p2, p3, pz0, pz1, pz2, pz3, pl⟩ := hB.four
                go_simp
                refine nameK ?_
                intro X hX
                have hne := hA.ne_t hB (by decide)
                have hA := (by rw [hX]; exact (((hA.other hne _).other hne _).other hne _).other hne _ : Blk X _ _ _)
                have hK0 := (by rw [hX]; exact (((hK0.other hB (by decide) _ _).other (hB.set 0 (.string key)) (by decide) _ _).other ((hB.set 0 (.string key)).set 1 (.string name)) (by decide) _ _).other (((hB.set 0 (.string key)).set 1 (.string name)).set 2 (.string val)) (by decide) _ _ : KindsB 69 B X)
                have bc := (by rw [hX]; exact (((bc.setCell gB _).setCell gB _).setCell gB _).setCell gB _ : Below W1.heap.size W1 X)
                have hB := (by rw [hX]; have := (((hB.set 0 (.string key)).set 1 (.string name)).set 2 (.string val)).set 3 (.string dst); simpa using this : Blk X _ #[.string key, .string name, .string val, .string dst] 78)
                clear hX hne p0 p1 p2 p3 pz0 pz1 pz2 pz3 pl
                refine hK.out _ _ ?_ (fun hHeld => ?_)
                · exact HKP.out _ bc
                clear hK K
                try simp only [Act.put, List.setIfInBounds_toArray, List.set_cons_zero, List.set_cons_succ]
                refine wpAnyH_done (by kernel_rfl) ?_ _
                go_wp2
                go_meet
                exact ⟨Lib.hid ⟨_, _, B, rfl, rfl, hA, hB, hK0⟩, Lib.hid bc⟩
        · skip
          have gB := bc.size
          go_simp
          refine nameK ?_
          intro X hX
          have bc := (by rw [hX]; exact bc.alloc bc.size _ : Below W1.heap.size W1 X)
          have hA := (by rw [hX]; exact hA.alloc _ : Blk X _ _ _)
          have hK0 := (by rw [hX]; exact hK0.later (Gr.alloc _ _).below : KindsB 69 B X)
          have hB := (by rw [hX]; exact Blk.new _ _ _ : Blk X _ z4 78)
          clear hX
          refine hK.out _ _ ?_ (fun hHeld => ?_)
          · exact HKP.out _ bc
          clear hK K
          try simp only [Act.put, List.setIfInBounds_toArray, List.set_cons_zero, List.set_cons_succ]
          refine wpAnyH_ready (rs := [5]) (by kernel_rfl) (by simp) ?_
          refine (AllReadyH.cons (o := { dst := some 13, op := Op.call { callee := Callee.value (Operand.func 31), args := #[Operand.tmp 12], argTypes := #[31] }, type := 78, pos := "lines.go:47", after := #[{ on := 4, ground := Ground.data }, { on := 0, ground := Ground.chain }], guard := none }) rfl (fun K hK => ?_) AllReadyH.nil)
          · skip
            go_simp
            go_at_call 31
            (with_reducible refine (HP.out _).mono ?_)
            rintro e X ⟨rfl, hg⟩
            have bc := bc.trans (hg.below.mono bc.size)
            have hK0 := hK0.later hg.below
            have hA := hA.gr hg
            have hB := hB.gr hg
            clear hg
            refine hK.out _ _ ?_ (fun hHeld => ?_)
            · exact HKP.out _ bc
            clear hK K
            skip
            refine wpAnyH_ready (rs := [8]) (by kernel_rfl) (by simp) ?_
            refine (AllReadyH.cons (o := { dst := none, op := Op.store 59 (Operand.tmp 3) (Operand.tmp 11), type := 0, pos := "lines.go:47", after := #[{ on := 6, ground := Ground.data }, { on := 3, ground := Ground.data }, { on := 5, ground := Ground.chain }, { on := 0, ground := Ground.phase }, { on := 1, ground := Ground.phase }, { on := 2, ground := Ground.phase }, { on := 3, ground := Ground.phase }, { on := 4, ground := Ground.textOnly Departure.lateStores }, { on := 5, ground := Ground.textOnly Departure.lateStoresUnsure }, { on := 6, ground := Ground.phase }, { on := 7, ground := Ground.phase }], guard := none }) rfl (fun K hK => ?_) AllReadyH.nil)
            · skip
              obtain ⟨a0, a1, az0, az1, al⟩ := hA.twof
              go_simp
              refine nameK ?_
              intro X hX
              have hne := hB.ne_t hA (by decide)
              have hB := (by rw [hX]; exact (hB.other hne _).other hne _ : Blk X _ _ _)
              have hK0 := (by rw [hX]; exact (hK0.other hA (by decide) _ _).other (hA.set 0 (.string u)) (by decide) _ _ : KindsB 69 B X)
              have bc := (by rw [hX]; exact (bc.setCell gA _).setCell gA _ : Below W1.heap.size W1 X)
              have hA := (by rw [hX]; have := (hA.set 0 (.string u)).set 1 (.slice (some ⟨B + k, 0, none⟩) n n); simpa using this : Blk X _ #[.string u, .slice (some ⟨B + k, 0, none⟩) n n] 59)
              clear hX hne a0 a1 az0 az1 al
              refine hK.out _ _ ?_ (fun hHeld => ?_)
              · exact HKP.out _ bc
              clear hK K
              try simp only [Act.put, List.setIfInBounds_toArray, List.set_cons_zero, List.set_cons_succ]
              refine wpAnyH_ready (rs := [9]) (by kernel_rfl) (by simp) ?_
              refine (AllReadyH.cons (o := { dst := none, op := Op.store 78 (Operand.tmp 4) (Operand.tmp 13), type := 0, pos := "lines.go:47", after := #[{ on := 7, ground := Ground.data }, { on := 5, ground := Ground.data }, { on := 8, ground := Ground.chain }, { on := 0, ground := Ground.phase }, { on := 1, ground := Ground.phase }, { on := 2, ground := Ground.phase }, { on := 3, ground := Ground.phase }, { on := 4, ground := Ground.phase }, { on := 5, ground := Ground.phase }, { on := 6, ground := Ground.phase }, { on := 7, ground := Ground.phase }, { on := 8, ground := Ground.phase }], guard := none }) rfl (fun K hK => ?_) AllReadyH.nil)
              · skip
                obtain ⟨p0, p1, p2, p3, pz0, pz1, pz2, pz3, pl⟩ := hB.four
                go_simp
                refine nameK ?_
                intro X hX
                have hne := hA.ne_t hB (by decide)
                have hA := (by rw [hX]; exact (((hA.other hne _).other hne _).other hne _).other hne _ : Blk X _ _ _)
                have hK0 := (by rw [hX]; exact (((hK0.other hB (by decide) _ _).other (hB.set 0 (.string key)) (by decide) _ _).other ((hB.set 0 (.string key)).set 1 (.string name)) (by decide) _ _).other (((hB.set 0 (.string key)).set 1 (.string name)).set 2 (.string val)) (by decide) _ _ : KindsB 69 B X)
                have bc := (by rw [hX]; exact (((bc.setCell gB _).setCell gB _).setCell gB _).setCell gB _ : Below W1.heap.size W1 X)
                have hB := (by rw [hX]; have := (((hB.set 0 (.string key)).set 1 (.string name)).set 2 (.string val)).set 3 (.string dst); simpa using this : Blk X _ #[.string key, .string name, .string val, .string dst] 78)
                clear hX hne p0 p1 p2 p3 pz0 pz1 pz2 pz3 pl
                refine hK.out _ _ ?_ (fun hHeld => ?_)
                · exact HKP.out _ bc
                clear hK K
                try simp only [Act.put, List.setIfInBounds_toArray, List.set_cons_zero, List.set_cons_succ]
                refine wpAnyH_done (by kernel_rfl) ?_ _
                go_wp2
                go_meet
                exact ⟨Lib.hid ⟨_, _, B, rfl, rfl, hA, hB, hK0⟩, Lib.hid bc⟩
      · skip
        have gB := bc.size
        go_simp
        refine nameK ?_
        intro X hX
        have bc := (by rw [hX]; exact bc.alloc bc.size _ : Below W1.heap.size W1 X)
        have hK0 := (by rw [hX]; exact hK0.later (Gr.alloc _ _).below : KindsB 69 B X)
        have hB := (by rw [hX]; exact Blk.new _ _ _ : Blk X _ z4 78)
        clear hX
        refine hK.out _ _ ?_ (fun hHeld => ?_)
        · exact HKP.out _ bc
        clear hK K
        try simp only [Act.put, List.setIfInBounds_toArray, List.set_cons_zero, List.set_cons_succ]
        refine wpAnyH_ready (rs := [5, 6]) (by kernel_rfl) (by simp) ?_
        refine (AllReadyH.cons (o := { dst := some 13, op := Op.call { callee := Callee.value (Operand.func 31), args := #[Operand.tmp 12], argTypes := #[31] }, type := 78, pos := "lines.go:47", after := #[{ on := 4, ground := Ground.data }, { on := 0, ground := Ground.chain }], guard := none }) rfl (fun K hK => ?_) (AllReadyH.cons (o := { dst := some 3, op := Op.alloc 59, type := 0, pos := "lines.go:47", after := #[], guard := none }) rfl (fun K hK => ?_) AllReadyH.nil))
        · skip
          go_simp
          go_at_call 31
          (with_reducible refine (HP.out _).mono ?_)
          rintro e X ⟨rfl, hg⟩
          have bc := bc.trans (hg.below.mono bc.size)
          have hK0 := hK0.later hg.below
          have hB := hB.gr hg
          clear hg
          refine hK.out _ _ ?_ (fun hHeld => ?_)
          · exact HKP.out _ bc
          clear hK K
          skip
          refine wpAnyH_ready (rs := [6]) (by kernel_rfl) (by simp) ?_
          refine (AllReadyH.cons (o := { dst := some 3, op := Op.alloc 59, type := 0, pos := "lines.go:47", after := #[], guard := none }) rfl (fun K hK => ?_) AllReadyH.nil)
          · skip
            have gA := bc.size
            go_simp
            refine nameK ?_
            intro X hX
            have bc := (by rw [hX]; exact bc.alloc bc.size _ : Below W1.heap.size W1 X)
            have hB := (by rw [hX]; exact hB.alloc _ : Blk X _ _ _)
            have hK0 := (by rw [hX]; exact hK0.later (Gr.alloc _ _).below : KindsB 69 B X)
            have hA := (by rw [hX]; exact Blk.new _ _ _ : Blk X _ z3 59)
            clear hX
            refine hK.out _ _ ?_ (fun hHeld => ?_)
            · exact HKP.out _ bc
            clear hK K
            try simp only [Act.put, List.setIfInBounds_toArray, List.set_cons_zero, List.set_cons_succ]
            refine wpAnyH_ready (rs := [8]) (by kernel_rfl) (by simp) ?_
            refine (AllReadyH.cons (o := { dst := none, op := Op.store 59 (Operand.tmp 3) (Operand.tmp 11), type := 0, pos := "lines.go:47", after := #[{ on := 6, ground := Ground.data }, { on := 3, ground := Ground.data }, { on := 5, ground := Ground.chain }, { on := 0, ground := Ground.phase }, { on := 1, ground := Ground.phase }, { on := 2, ground := Ground.phase }, { on := 3, ground := Ground.phase }, { on := 4, ground := Ground.textOnly Departure.lateStores }, { on := 5, ground := Ground.textOnly Departure.lateStoresUnsure }, { on := 6, ground := Ground.phase }, { on := 7, ground := Ground.phase }], guard := none }) rfl (fun K hK => ?_) AllReadyH.nil)
            · skip
              obtain ⟨a0, a1, az0, az1, al⟩ := hA.twof
              go_simp
              refine nameK ?_
              intro X hX
              have hne := hB.ne_t hA (by decide)
              have hB := (by rw [hX]; exact (hB.other hne _).other hne _ : Blk X _ _ _)
              have hK0 := (by rw [hX]; exact (hK0.other hA (by decide) _ _).other (hA.set 0 (.string u)) (by decide) _ _ : KindsB 69 B X)
              have bc := (by rw [hX]; exact (bc.setCell gA _).setCell gA _ : Below W1.heap.size W1 X)
              have hA := (by rw [hX]; have := (hA.set 0 (.string u)).set 1 (.slice (some ⟨B + k, 0, none⟩) n n); simpa using this : Blk X _ #[.string u, .slice (some ⟨B + k, 0, none⟩) n n] 59)
              clear hX hne a0 a1 az0 az1 al
              refine hK.out _ _ ?_ (fun hHeld => ?_)
              · exact HKP.out _ bc
              clear hK K
              try simp only [Act.put, List.setIfInBounds_toArray, List.set_cons_zero, List.set_cons_succ]
              refine wpAnyH_ready (rs := [9]) (by kernel_rfl) (by simp) ?_
              refine (AllReadyH.cons (o := { dst := none, op := Op.store 78 (Operand.tmp 4) (Operand.tmp 13), type := 0, pos := "lines.go:47", after := #[{ on := 7, ground := Ground.data }, { on := 5, ground := Ground.data }, { on := 8, ground := Ground.chain }, { on := 0, ground := Ground.phase }, { on := 1, ground := Ground.phase }, { on := 2, ground := Ground.phase }, { on := 3, ground := Ground.phase }, { on := 4, ground := Ground.phase }, { on := 5, ground := Ground.phase }, { on := 6, ground := Ground.phase }, { on := 7, ground := Ground.phase }, { on := 8, ground := Ground.phase }], guard := none }) rfl (fun K hK => ?_) AllReadyH.nil)
              · skip
                obtain ⟨p0, p1, p2, p3, pz0, pz1, pz2, pz3, pl⟩ := hB.four
                go_simp
                refine nameK ?_
                intro X hX
                have hne := hA.ne_t hB (by decide)
                have hA := (by rw [hX]; exact (((hA.other hne _).other hne _).other hne _).other hne _ : Blk X _ _ _)
                have hK0 := (by rw [hX]; exact (((hK0.other hB (by decide) _ _).other (hB.set 0 (.string key)) (by decide) _ _).other ((hB.set 0 (.string key)).set 1 (.string name)) (by decide) _ _).other (((hB.set 0 (.string key)).set 1 (.string name)).set 2 (.string val)) (by decide) _ _ : KindsB 69 B X)
                have bc := (by rw [hX]; exact (((bc.setCell gB _).setCell gB _).setCell gB _).setCell gB _ : Below W1.heap.size W1 X)
                have hB := (by rw [hX]; have := (((hB.set 0 (.string key)).set 1 (.string name)).set 2 (.string val)).set 3 (.string dst); simpa using this : Blk X _ #[.string key, .string name, .string val, .string dst] 78)
                clear hX hne p0 p1 p2 p3 pz0 pz1 pz2 pz3 pl
                refine hK.out _ _ ?_ (fun hHeld => ?_)
                · exact HKP.out _ bc
                clear hK K
                try simp only [Act.put, List.setIfInBounds_toArray, List.set_cons_zero, List.set_cons_succ]
                refine wpAnyH_done (by kernel_rfl) ?_ _
                go_wp2
                go_meet
                exact ⟨Lib.hid ⟨_, _, B, rfl, rfl, hA, hB, hK0⟩, Lib.hid bc⟩
        · skip
          have gA := bc.size
          go_simp
          refine nameK ?_
          intro X hX
          have bc := (by rw [hX]; exact bc.alloc bc.size _ : Below W1.heap.size W1 X)
          have hB := (by rw [hX]; exact hB.alloc _ : Blk X _ _ _)
          have hK0 := (by rw [hX]; exact hK0.later (Gr.alloc _ _).below : KindsB 69 B X)
          have hA := (by rw [hX]; exact Blk.new _ _ _ : Blk X _ z3 59)
          clear hX
          refine hK.out _ _ ?_ (fun hHeld => ?_)
          · exact HKP.out _ bc
          clear hK K
          try simp only [Act.put, List.setIfInBounds_toArray, List.set_cons_zero, List.set_cons_succ]
          refine wpAnyH_ready (rs := [5]) (by kernel_rfl) (by simp) ?_
          refine (AllReadyH.cons (o := { dst := some 13, op := Op.call { callee := Callee.value (Operand.func 31), args := #[Operand.tmp 12], argTypes := #[31] }, type := 78, pos := "lines.go:47", after := #[{ on := 4, ground := Ground.data }, { on := 0, ground := Ground.chain }], guard := none }) rfl (fun K hK => ?_) AllReadyH.nil)
          · skip
            go_simp
            go_at_call 31
            (with_reducible refine (HP.out _).mono ?_)
            rintro e X ⟨rfl, hg⟩
            have bc := bc.trans (hg.below.mono bc.size)
            have hK0 := hK0.later hg.below
            have hA := hA.gr hg
            have hB := hB.gr hg
            clear hg
            refine hK.out _ _ ?_ (fun hHeld => ?_)
            · exact HKP.out _ bc
            clear hK K
            skip
            refine wpAnyH_ready (rs := [8]) (by kernel_rfl) (by simp) ?_
            refine (AllReadyH.cons (o := { dst := none, op := Op.store 59 (Operand.tmp 3) (Operand.tmp 11), type := 0, pos := "lines.go:47", after := #[{ on := 6, ground := Ground.data }, { on := 3, ground := Ground.data }, { on := 5, ground := Ground.chain }, { on := 0, ground := Ground.phase }, { on := 1, ground := Ground.phase }, { on := 2, ground := Ground.phase }, { on := 3, ground := Ground.phase }, { on := 4, ground := Ground.textOnly Departure.lateStores }, { on := 5, ground := Ground.textOnly Departure.lateStoresUnsure }, { on := 6, ground := Ground.phase }, { on := 7, ground := Ground.phase }], guard := none }) rfl (fun K hK => ?_) AllReadyH.nil)
            · skip
              obtain ⟨a0, a1, az0, az1, al⟩ := hA.twof
              go_simp
              refine nameK ?_
              intro X hX
              have hne := hB.ne_t hA (by decide)
              have hB := (by rw [hX]; exact (hB.other hne _).other hne _ : Blk X _ _ _)
              have hK0 := (by rw [hX]; exact (hK0.other hA (by decide) _ _).other (hA.set 0 (.string u)) (by decide) _ _ : KindsB 69 B X)
              have bc := (by rw [hX]; exact (bc.setCell gA _).setCell gA _ : Below W1.heap.size W1 X)
              have hA := (by rw [hX]; have := (hA.set 0 (.string u)).set 1 (.slice (some ⟨B + k, 0, none⟩) n n); simpa using this : Blk X _ #[.string u, .slice (some ⟨B + k, 0, none⟩) n n] 59)
              clear hX hne a0 a1 az0 az1 al
              refine hK.out _ _ ?_ (fun hHeld => ?_)
              · exact HKP.out _ bc
              clear hK K
              try simp only [Act.put, List.setIfInBounds_toArray, List.set_cons_zero, List.set_cons_succ]
              refine wpAnyH_ready (rs := [9]) (by kernel_rfl) (by simp) ?_
              refine (AllReadyH.cons (o := { dst := none, op := Op.store 78 (Operand.tmp 4) (Operand.tmp 13), type := 0, pos := "lines.go:47", after := #[{ on := 7, ground := Ground.data }, { on := 5, ground := Ground.data }, { on := 8, ground := Ground.chain }, { on := 0, ground := Ground.phase }, { on := 1, ground := Ground.phase }, { on := 2, ground := Ground.phase }, { on := 3, ground := Ground.phase }, { on := 4, ground := Ground.phase }, { on := 5, ground := Ground.phase }, { on := 6, ground := Ground.phase }, { on := 7, ground := Ground.phase }, { on := 8, ground := Ground.phase }], guard := none }) rfl (fun K hK => ?_) AllReadyH.nil)
              · skip
                obtain ⟨p0, p1, p2, p3, pz0, pz1, pz2, pz3, pl⟩ := hB.four
                go_simp
                refine nameK ?_
                intro X hX
                have hne := hA.ne_t hB (by decide)
                have hA := (by rw [hX]; exact (((hA.other hne _).other hne _).other hne _).other hne _ : Blk X _ _ _)
                have hK0 := (by rw [hX]; exact (((hK0.other hB (by decide) _ _).other (hB.set 0 (.string key)) (by decide) _ _).other ((hB.set 0 (.string key)).set 1 (.string name)) (by decide) _ _).other (((hB.set 0 (.string key)).set 1 (.string name)).set 2 (.string val)) (by decide) _ _ : KindsB 69 B X)
                have bc := (by rw [hX]; exact (((bc.setCell gB _).setCell gB _).setCell gB _).setCell gB _ : Below W1.heap.size W1 X)
                have hB := (by rw [hX]; have := (((hB.set 0 (.string key)).set 1 (.string name)).set 2 (.string val)).set 3 (.string dst); simpa using this : Blk X _ #[.string key, .string name, .string val, .string dst] 78)
                clear hX hne p0 p1 p2 p3 pz0 pz1 pz2 pz3 pl
                refine hK.out _ _ ?_ (fun hHeld => ?_)
                · exact HKP.out _ bc
                clear hK K
                try simp only [Act.put, List.setIfInBounds_toArray, List.set_cons_zero, List.set_cons_succ]
                refine wpAnyH_done (by kernel_rfl) ?_ _
                go_wp2
                go_meet
                exact ⟨Lib.hid ⟨_, _, B, rfl, rfl, hA, hB, hK0⟩, Lib.hid bc⟩
    · skip
      have gA := bc.size
      go_simp
      refine nameK ?_
      intro X hX
      have bc := (by rw [hX]; exact bc.alloc bc.size _ : Below W1.heap.size W1 X)
      have hA := (by rw [hX]; exact Blk.new _ _ _ : Blk X _ z3 59)
      clear hX
      refine hK.out _ _ ?_ (fun hHeld => ?_)
      · exact HKP.out _ bc
      clear hK K
      try simp only [Act.put, List.setIfInBounds_toArray, List.set_cons_zero, List.set_cons_succ]
      refine wpAnyH_ready (rs := [0, 7]) (by kernel_rfl) (by simp) ?_
      refine (AllReadyH.cons (o := { dst := some 8, op := Op.call { callee := Callee.value (Operand.func 30), args := #[], argTypes := #[] }, type := 76, pos := "lines.go:47", after := #[], guard := none }) rfl (fun K hK => ?_) (AllReadyH.cons (o := { dst := some 4, op := Op.alloc 78, type := 0, pos := "lines.go:47", after := #[], guard := none }) rfl (fun K hK => ?_) AllReadyH.nil))
      · skip
        go_simp
        go_at_call 30
        (with_reducible refine (HK.out _).mono ?_)
        rintro e X ⟨A, B, rfl, hix, hK0, hg⟩
        have bc := bc.trans (hg.below.mono bc.size)
        have hA := hA.gr hg
        clear hg
        refine hK.out _ _ ?_ (fun hHeld => ?_)
        · exact HKP.out _ bc
        clear hK K
        try simp only [Act.put, List.setIfInBounds_toArray, List.set_cons_zero, List.set_cons_succ]
        refine takeOn 3 { dst := some 11, op := Op.index 76 (Operand.tmp 8) (Operand.tmp 10), type := 59, pos := "lines.go:47", after := #[{ on := 0, ground := Ground.data }, { on := 2, ground := Ground.data }], guard := none } (v := ?v4) rfl (by kernel_rfl) (by kernel_rfl) (by kernel_rfl) (fun _ _ _ h => h) (by rfl) (by assumption) ?yv4 ?_
        case yv4 =>
          intro w hSw
          try dsimp only at hSw
          go_simp
          try (with_reducible rfl)
        try simp only [Act.put, List.setIfInBounds_toArray, List.set_cons_zero, List.set_cons_succ]
        refine wpAnyH_ready (rs := [5, 7]) (by kernel_rfl) (by simp) ?_
        refine (AllReadyH.cons (o := { dst := some 13, op := Op.call { callee := Callee.value (Operand.func 31), args := #[Operand.tmp 12], argTypes := #[31] }, type := 78, pos := "lines.go:47", after := #[{ on := 4, ground := Ground.data }, { on := 0, ground := Ground.chain }], guard := none }) rfl (fun K hK => ?_) (AllReadyH.cons (o := { dst := some 4, op := Op.alloc 78, type := 0, pos := "lines.go:47", after := #[], guard := none }) rfl (fun K hK => ?_) AllReadyH.nil))
        · skip
          go_simp
          go_at_call 31
          (with_reducible refine (HP.out _).mono ?_)
          rintro e X ⟨rfl, hg⟩
          have bc := bc.trans (hg.below.mono bc.size)
          have hK0 := hK0.later hg.below
          have hA := hA.gr hg
          clear hg
          refine hK.out _ _ ?_ (fun hHeld => ?_)
          · exact HKP.out _ bc
          clear hK K
          skip
          refine wpAnyH_ready (rs := [7]) (by kernel_rfl) (by simp) ?_
          refine (AllReadyH.cons (o := { dst := some 4, op := Op.alloc 78, type := 0, pos := "lines.go:47", after := #[], guard := none }) rfl (fun K hK => ?_) AllReadyH.nil)
          · skip
            have gB := bc.size
            go_simp
            refine nameK ?_
            intro X hX
            have bc := (by rw [hX]; exact bc.alloc bc.size _ : Below W1.heap.size W1 X)
            have hA := (by rw [hX]; exact hA.alloc _ : Blk X _ _ _)
            have hK0 := (by rw [hX]; exact hK0.later (Gr.alloc _ _).below : KindsB 69 B X)
            have hB := (by rw [hX]; exact Blk.new _ _ _ : Blk X _ z4 78)
            clear hX
            refine hK.out _ _ ?_ (fun hHeld => ?_)
            · exact HKP.out _ bc
            clear hK K
            try simp only [Act.put, List.setIfInBounds_toArray, List.set_cons_zero, List.set_cons_succ]
            refine wpAnyH_ready (rs := [8]) (by kernel_rfl) (by simp) ?_
            refine (AllReadyH.cons (o := { dst := none, op := Op.store 59 (Operand.tmp 3) (Operand.tmp 11), type := 0, pos := "lines.go:47", after := #[{ on := 6, ground := Ground.data }, { on := 3, ground := Ground.data }, { on := 5, ground := Ground.chain }, { on := 0, ground := Ground.phase }, { on := 1, ground := Ground.phase }, { on := 2, ground := Ground.phase }, { on := 3, ground := Ground.phase }, { on := 4, ground := Ground.textOnly Departure.lateStores }, { on := 5, ground := Ground.textOnly Departure.lateStoresUnsure }, { on := 6, ground := Ground.phase }, { on := 7, ground := Ground.phase }], guard := none }) rfl (fun K hK => ?_) AllReadyH.nil)
            · skip
              obtain ⟨a0, a1, az0, az1, al⟩ := hA.twof
              go_simp
              refine nameK ?_
              intro X hX
              have hne := hB.ne_t hA (by decide)
              have hB := (by rw [hX]; exact (hB.other hne _).other hne _ : Blk X _ _ _)
              have hK0 := (by rw [hX]; exact (hK0.other hA (by decide) _ _).other (hA.set 0 (.string u)) (by decide) _ _ : KindsB 69 B X)
              have bc := (by rw [hX]; exact (bc.setCell gA _).setCell gA _ : Below W1.heap.size W1 X)
              have hA := (by rw [hX]; have := (hA.set 0 (.string u)).set 1 (.slice (some ⟨B + k, 0, none⟩) n n); simpa using this : Blk X _ #[.string u, .slice (some ⟨B + k, 0, none⟩) n n] 59)
              clear hX hne a0 a1 az0 az1 al
              refine hK.out _ _ ?_ (fun hHeld => ?_)
              · exact HKP.out _ bc
              clear hK K
              try simp only [Act.put, List.setIfInBounds_toArray, List.set_cons_zero, List.set_cons_succ]
              refine wpAnyH_ready (rs := [9]) (by kernel_rfl) (by simp) ?_
              refine (AllReadyH.cons (o := { dst := none, op := Op.store 78 (Operand.tmp 4) (Operand.tmp 13), type := 0, pos := "lines.go:47", after := #[{ on := 7, ground := Ground.data }, { on := 5, ground := Ground.data }, { on := 8, ground := Ground.chain }, { on := 0, ground := Ground.phase }, { on := 1, ground := Ground.phase }, { on := 2, ground := Ground.phase }, { on := 3, ground := Ground.phase }, { on := 4, ground := Ground.phase }, { on := 5, ground := Ground.phase }, { on := 6, ground := Ground.phase }, { on := 7, ground := Ground.phase }, { on := 8, ground := Ground.phase }], guard := none }) rfl (fun K hK => ?_) AllReadyH.nil)
              · skip
                obtain ⟨p0, p1, p2, p3, pz0, pz1, pz2, pz3, pl⟩ := hB.four
                go_simp
                refine nameK ?_
                intro X hX
                have hne := hA.ne_t hB (by decide)
                have hA := (by rw [hX]; exact (((hA.other hne _).other hne _).other hne _).other hne _ : Blk X _ _ _)
                have hK0 := (by rw [hX]; exact (((hK0.other hB (by decide) _ _).other (hB.set 0 (.string key)) (by decide) _ _).other ((hB.set 0 (.string key)).set 1 (.string name)) (by decide) _ _).other (((hB.set 0 (.string key)).set 1 (.string name)).set 2 (.string val)) (by decide) _ _ : KindsB 69 B X)
                have bc := (by rw [hX]; exact (((bc.setCell gB _).setCell gB _).setCell gB _).setCell gB _ : Below W1.heap.size W1 X)
                have hB := (by rw [hX]; have := (((hB.set 0 (.string key)).set 1 (.string name)).set 2 (.string val)).set 3 (.string dst); simpa using this : Blk X _ #[.string key, .string name, .string val, .string dst] 78)
                clear hX hne p0 p1 p2 p3 pz0 pz1 pz2 pz3 pl
                refine hK.out _ _ ?_ (fun hHeld => ?_)
                · exact HKP.out _ bc
                clear hK K
                try simp only [Act.put, List.setIfInBounds_toArray, List.set_cons_zero, List.set_cons_succ]
                refine wpAnyH_done (by kernel_rfl) ?_ _
                go_wp2
                go_meet
                exact ⟨Lib.hid ⟨_, _, B, rfl, rfl, hA, hB, hK0⟩, Lib.hid bc⟩
        · skip
          have gB := bc.size
          go_simp
          refine nameK ?_
          intro X hX
          have bc := (by rw [hX]; exact bc.alloc bc.size _ : Below W1.heap.size W1 X)
          have hA := (by rw [hX]; exact hA.alloc _ : Blk X _ _ _)
          have hK0 := (by rw [hX]; exact hK0.later (Gr.alloc _ _).below : KindsB 69 B X)
          have hB := (by rw [hX]; exact Blk.new _ _ _ : Blk X _ z4 78)
          clear hX
          refine hK.out _ _ ?_ (fun hHeld => ?_)
          · exact HKP.out _ bc
          clear hK K
          try simp only [Act.put, List.setIfInBounds_toArray, List.set_cons_zero, List.set_cons_succ]
          refine wpAnyH_ready (rs := [5]) (by kernel_rfl) (by simp) ?_
          refine (AllReadyH.cons (o := { dst := some 13, op := Op.call { callee := Callee.value (Operand.func 31), args := #[Operand.tmp 12], argTypes := #[31] }, type := 78, pos := "lines.go:47", after := #[{ on := 4, ground := Ground.data }, { on := 0, ground := Ground.chain }], guard := none }) rfl (fun K hK => ?_) AllReadyH.nil)
          · skip
            go_simp
            go_at_call 31
            (with_reducible refine (HP.out _).mono ?_)
            rintro e X ⟨rfl, hg⟩
            have bc := bc.trans (hg.below.mono bc.size)
            have hK0 := hK0.later hg.below
            have hA := hA.gr hg
            have hB := hB.gr hg
            clear hg
            refine hK.out _ _ ?_ (fun hHeld => ?_)
            · exact HKP.out _ bc
            clear hK K
            skip
            refine wpAnyH_ready (rs := [8]) (by kernel_rfl) (by simp) ?_
            refine (AllReadyH.cons (o := { dst := none, op := Op.store 59 (Operand.tmp 3) (Operand.tmp 11), type := 0, pos := "lines.go:47", after := #[{ on := 6, ground := Ground.data }, { on := 3, ground := Ground.data }, { on := 5, ground := Ground.chain }, { on := 0, ground := Ground.phase }, { on := 1, ground := Ground.phase }, { on := 2, ground := Ground.phase }, { on := 3, ground := Ground.phase }, { on := 4, ground := Ground.textOnly Departure.lateStores }, { on := 5, ground := Ground.textOnly Departure.lateStoresUnsure }, { on := 6, ground := Ground.phase }, { on := 7, ground := Ground.phase }], guard := none }) rfl (fun K hK => ?_) AllReadyH.nil)
            · skip
              obtain ⟨a0, a1, az0, az1, al⟩ := hA.twof
              go_simp
              refine nameK ?_
              intro X hX
              have hne := hB.ne_t hA (by decide)
              have hB := (by rw [hX]; exact (hB.other hne _).other hne _ : Blk X _ _ _)
              have hK0 := (by rw [hX]; exact (hK0.other hA (by decide) _ _).other (hA.set 0 (.string u)) (by decide) _ _ : KindsB 69 B X)
              have bc := (by rw [hX]; exact (bc.setCell gA _).setCell gA _ : Below W1.heap.size W1 X)
              have hA := (by rw [hX]; have := (hA.set 0 (.string u)).set 1 (.slice (some ⟨B + k, 0, none⟩) n n); simpa using this : Blk X _ #[.string u, .slice (some ⟨B + k, 0, none⟩) n n] 59)
              clear hX hne a0 a1 az0 az1 al
              refine hK.out _ _ ?_ (fun hHeld => ?_)
              · exact HKP.out _ bc
              clear hK K
              try simp only [Act.put, List.setIfInBounds_toArray, List.set_cons_zero, List.set_cons_succ]
              refine wpAnyH_ready (rs := [9]) (by kernel_rfl) (by simp) ?_
              refine (AllReadyH.cons (o := { dst := none, op := Op.store 78 (Operand.tmp 4) (Operand.tmp 13), type := 0, pos := "lines.go:47", after := #[{ on := 7, ground := Ground.data }, { on := 5, ground := Ground.data }, { on := 8, ground := Ground.chain }, { on := 0, ground := Ground.phase }, { on := 1, ground := Ground.phase }, { on := 2, ground := Ground.phase }, { on := 3, ground := Ground.phase }, { on := 4, ground := Ground.phase }, { on := 5, ground := Ground.phase }, { on := 6, ground := Ground.phase }, { on := 7, ground := Ground.phase }, { on := 8, ground := Ground.phase }], guard := none }) rfl (fun K hK => ?_) AllReadyH.nil)
              · skip
                obtain ⟨p0, p1, p2, p3, pz0, pz1, pz2, pz3, pl⟩ := hB.four
                go_simp
                refine nameK ?_
                intro X hX
                have hne := hA.ne_t hB (by decide)
                have hA := (by rw [hX]; exact (((hA.other hne _).other hne _).other hne _).other hne _ : Blk X _ _ _)
                have hK0 := (by rw [hX]; exact (((hK0.other hB (by decide) _ _).other (hB.set 0 (.string key)) (by decide) _ _).other ((hB.set 0 (.string key)).set 1 (.string name)) (by decide) _ _).other (((hB.set 0 (.string key)).set 1 (.string name)).set 2 (.string val)) (by decide) _ _ : KindsB 69 B X)
                have bc := (by rw [hX]; exact (((bc.setCell gB _).setCell gB _).setCell gB _).setCell gB _ : Below W1.heap.size W1 X)
                have hB := (by rw [hX]; have := (((hB.set 0 (.string key)).set 1 (.string name)).set 2 (.string val)).set 3 (.string dst); simpa using this : Blk X _ #[.string key, .string name, .string val, .string dst] 78)
                clear hX hne p0 p1 p2 p3 pz0 pz1 pz2 pz3 pl
                refine hK.out _ _ ?_ (fun hHeld => ?_)
                · exact HKP.out _ bc
                clear hK K
                try simp only [Act.put, List.setIfInBounds_toArray, List.set_cons_zero, List.set_cons_succ]
                refine wpAnyH_done (by kernel_rfl) ?_ _
                go_wp2
                go_meet
                exact ⟨Lib.hid ⟨_, _, B, rfl, rfl, hA, hB, hK0⟩, Lib.hid bc⟩
      · skip
        have gB := bc.size
        go_simp
        refine nameK ?_
        intro X hX
        have bc := (by rw [hX]; exact bc.alloc bc.size _ : Below W1.heap.size W1 X)
        have hA := (by rw [hX]; exact hA.alloc _ : Blk X _ _ _)
        have hB := (by rw [hX]; exact Blk.new _ _ _ : Blk X _ z4 78)
        clear hX
        refine hK.out _ _ ?_ (fun hHeld => ?_)
        · exact HKP.out _ bc
        clear hK K
        try simp only [Act.put, List.setIfInBounds_toArray, List.set_cons_zero, List.set_cons_succ]
        refine wpAnyH_ready (rs := [0]) (by kernel_rfl) (by simp) ?_
        refine (AllReadyH.cons (o := { dst := some 8, op := Op.call { callee := Callee.value (Operand.func 30), args := #[], argTypes := #[] }, type := 76, pos := "lines.go:47", after := #[], guard := none }) rfl (fun K hK => ?_) AllReadyH.nil)
        · skip
          go_simp
          go_at_call 30
          (with_reducible refine (HK.out _).mono ?_)
          rintro e X ⟨A, B, rfl, hix, hK0, hg⟩
          have bc := bc.trans (hg.below.mono bc.size)
          have hA := hA.gr hg
          have hB := hB.gr hg
          clear hg
          refine hK.out _ _ ?_ (fun hHeld => ?_)
          · exact HKP.out _ bc
          clear hK K
          try simp only [Act.put, List.setIfInBounds_toArray, List.set_cons_zero, List.set_cons_succ]
          refine takeOn 3 { dst := some 11, op := Op.index 76 (Operand.tmp 8) (Operand.tmp 10), type := 59, pos := "lines.go:47", after := #[{ on := 0, ground := Ground.data }, { on := 2, ground := Ground.data }], guard := none } (v := ?v5) rfl (by kernel_rfl) (by kernel_rfl) (by kernel_rfl) (fun _ _ _ h => h) (by rfl) (by assumption) ?yv5 ?_
          case yv5 =>
            intro w hSw
            try dsimp only at hSw
            go_simp
            try (with_reducible rfl)
          try simp only [Act.put, List.setIfInBounds_toArray, List.set_cons_zero, List.set_cons_succ]
          refine wpAnyH_ready (rs := [5]) (by kernel_rfl) (by simp) ?_
          refine (AllReadyH.cons (o := { dst := some 13, op := Op.call { callee := Callee.value (Operand.func 31), args := #[Operand.tmp 12], argTypes := #[31] }, type := 78, pos := "lines.go:47", after := #[{ on := 4, ground := Ground.data }, { on := 0, ground := Ground.chain }], guard := none }) rfl (fun K hK => ?_) AllReadyH.nil)
          · skip
            go_simp
            go_at_call 31
            (with_reducible refine (HP.out _).mono ?_)
            rintro e X ⟨rfl, hg⟩
            have bc := bc.trans (hg.below.mono bc.size)
            have hK0 := hK0.later hg.below
            have hA := hA.gr hg
            have hB := hB.gr hg
            clear hg
            refine hK.out _ _ ?_ (fun hHeld => ?_)
            · exact HKP.out _ bc
            clear hK K
            skip
            refine wpAnyH_ready (rs := [8]) (by kernel_rfl) (by simp) ?_
            refine (AllReadyH.cons (o := { dst := none, op := Op.store 59 (Operand.tmp 3) (Operand.tmp 11), type := 0, pos := "lines.go:47", after := #[{ on := 6, ground := Ground.data }, { on := 3, ground := Ground.data }, { on := 5, ground := Ground.chain }, { on := 0, ground := Ground.phase }, { on := 1, ground := Ground.phase }, { on := 2, ground := Ground.phase }, { on := 3, ground := Ground.phase }, { on := 4, ground := Ground.textOnly Departure.lateStores }, { on := 5, ground := Ground.textOnly Departure.lateStoresUnsure }, { on := 6, ground := Ground.phase }, { on := 7, ground := Ground.phase }], guard := none }) rfl (fun K hK => ?_) AllReadyH.nil)
            · skip
              obtain ⟨a0, a1, az0, az1, al⟩ := hA.twof
              go_simp
              refine nameK ?_
              intro X hX
              have hne := hB.ne_t hA (by decide)
              have hB := (by rw [hX]; exact (hB.other hne _).other hne _ : Blk X _ _ _)
              have hK0 := (by rw [hX]; exact (hK0.other hA (by decide) _ _).other (hA.set 0 (.string u)) (by decide) _ _ : KindsB 69 B X)
              have bc := (by rw [hX]; exact (bc.setCell gA _).setCell gA _ : Below W1.heap.size W1 X)
              have hA := (by rw [hX]; have := (hA.set 0 (.string u)).set 1 (.slice (some ⟨B + k, 0, none⟩) n n); simpa using this : Blk X _ #[.string u, .slice (some ⟨B + k, 0, none⟩) n n] 59)
              clear hX hne a0 a1 az0 az1 al
              refine hK.out _ _ ?_ (fun hHeld => ?_)
              · exact HKP.out _ bc
              clear hK K
              try simp only [Act.put, List.setIfInBounds_toArray, List.set_cons_zero, List.set_cons_succ]
              refine wpAnyH_ready (rs := [9]) (by kernel_rfl) (by simp) ?_
              refine (AllReadyH.cons (o := { dst := none, op := Op.store 78 (Operand.tmp 4) (Operand.tmp 13), type := 0, pos := "lines.go:47", after := #[{ on := 7, ground := Ground.data }, { on := 5, ground := Ground.data }, { on := 8, ground := Ground.chain }, { on := 0, ground := Ground.phase }, { on := 1, ground := Ground.phase }, { on := 2, ground := Ground.phase }, { on := 3, ground := Ground.phase }, { on := 4, ground := Ground.phase }, { on := 5, ground := Ground.phase }, { on := 6, ground := Ground.phase }, { on := 7, ground := Ground.phase }, { on := 8, ground := Ground.phase }], guard := none }) rfl (fun K hK => ?_) AllReadyH.nil)
              · skip
                obtain ⟨p0, p1, p2, p3, pz0, pz1, pz2, pz3, pl⟩ := hB.four
                go_simp
                refine nameK ?_
                intro X hX
                have hne := hA.ne_t hB (by decide)
                have hA := (by rw [hX]; exact (((hA.other hne _).other hne _).other hne _).other hne _ : Blk X _ _ _)
                have hK0 := (by rw [hX]; exact (((hK0.other hB (by decide) _ _).other (hB.set 0 (.string key)) (by decide) _ _).other ((hB.set 0 (.string key)).set 1 (.string name)) (by decide) _ _).other (((hB.set 0 (.string key)).set 1 (.string name)).set 2 (.string val)) (by decide) _ _ : KindsB 69 B X)
                have bc := (by rw [hX]; exact (((bc.setCell gB _).setCell gB _).setCell gB _).setCell gB _ : Below W1.heap.size W1 X)
                have hB := (by rw [hX]; have := (((hB.set 0 (.string key)).set 1 (.string name)).set 2 (.string val)).set 3 (.string dst); simpa using this : Blk X _ #[.string key, .string name, .string val, .string dst] 78)
                clear hX hne p0 p1 p2 p3 pz0 pz1 pz2 pz3 pl
                refine hK.out _ _ ?_ (fun hHeld => ?_)
                · exact HKP.out _ bc
                clear hK K
                try simp only [Act.put, List.setIfInBounds_toArray, List.set_cons_zero, List.set_cons_succ]
                refine wpAnyH_done (by kernel_rfl) ?_ _
                go_wp2
                go_meet
                exact ⟨Lib.hid ⟨_, _, B, rfl, rfl, hA, hB, hK0⟩, Lib.hid bc⟩
    · skip
      have gB := bc.size
      go_simp
      refine nameK ?_
      intro X hX
      have bc := (by rw [hX]; exact bc.alloc bc.size _ : Below W1.heap.size W1 X)
      have hB := (by rw [hX]; exact Blk.new _ _ _ : Blk X _ z4 78)
      clear hX
      refine hK.out _ _ ?_ (fun hHeld => ?_)
      · exact HKP.out _ bc
      clear hK K
      try simp only [Act.put, List.setIfInBounds_toArray, List.set_cons_zero, List.set_cons_succ]
      refine wpAnyH_ready (rs := [0, 6]) (by kernel_rfl) (by simp) ?_
      refine (AllReadyH.cons (o := { dst := some 8, op := Op.call { callee := Callee.value (Operand.func 30), args := #[], argTypes := #[] }, type := 76, pos := "lines.go:47", after := #[], guard := none }) rfl (fun K hK => ?_) (AllReadyH.cons (o := { dst := some 3, op := Op.alloc 59, type := 0, pos := "lines.go:47", after := #[], guard := none }) rfl (fun K hK => ?_) AllReadyH.nil))
      · skip
        go_simp
        go_at_call 30
        (with_reducible refine (HK.out _).mono ?_)
        rintro e X ⟨A, B, rfl, hix, hK0, hg⟩
        have bc := bc.trans (hg.below.mono bc.size)
        have hB := hB.gr hg
        clear hg
        refine hK.out _ _ ?_ (fun hHeld => ?_)
        · exact HKP.out _ bc
        clear hK K
        try simp only [Act.put, List.setIfInBounds_toArray, List.set_cons_zero, List.set_cons_succ]
        refine takeOn 3 { dst := some 11, op := Op.index 76 (Operand.tmp 8) (Operand.tmp 10), type := 59, pos := "lines.go:47", after := #[{ on := 0, ground := Ground.data }, { on := 2, ground := Ground.data }], guard := none } (v := ?v6) rfl (by kernel_rfl) (by kernel_rfl) (by kernel_rfl) (fun _ _ _ h => h) (by rfl) (by assumption) ?yv6 ?_
        case yv6 =>
          intro w hSw
          try dsimp only at hSw
          go_simp
          try (with_reducible rfl)
        try simp only [Act.put, List.setIfInBounds_toArray, List.set_cons_zero, List.set_cons_succ]
        refine wpAnyH_ready (rs := [5, 6]) (by kernel_rfl) (by simp) ?_
        refine (AllReadyH.cons (o := { dst := some 13, op := Op.call { callee := Callee.value (Operand.func 31), args := #[Operand.tmp 12], argTypes := #[31] }, type := 78, pos := "lines.go:47", after := #[{ on := 4, ground := Ground.data }, { on := 0, ground := Ground.chain }], guard := none }) rfl (fun K hK => ?_) (AllReadyH.cons (o := { dst := some 3, op := Op.alloc 59, type := 0, pos := "lines.go:47", after := #[], guard := none }) rfl (fun K hK => ?_) AllReadyH.nil))
        · skip
          go_simp
          go_at_call 31
          (with_reducible refine (HP.out _).mono ?_)
          rintro e X ⟨rfl, hg⟩
          have bc := bc.trans (hg.below.mono bc.size)
          have hK0 := hK0.later hg.below
          have hB := hB.gr hg
          clear hg
          refine hK.out _ _ ?_ (fun hHeld => ?_)
          · exact HKP.out _ bc
          clear hK K
          skip
          refine wpAnyH_ready (rs := [6]) (by kernel_rfl) (by simp) ?_
          refine (AllReadyH.cons (o := { dst := some 3, op := Op.alloc 59, type := 0, pos := "lines.go:47", after := #[], guard := none }) rfl (fun K hK => ?_) AllReadyH.nil)
          · skip
            have gA := bc.size
            go_simp
            refine nameK ?_
            intro X hX
            have bc := (by rw [hX]; exact bc.alloc bc.size _ : Below W1.heap.size W1 X)
            have hB := (by rw [hX]; exact hB.alloc _ : Blk X _ _ _)
            have hK0 := (by rw [hX]; exact hK0.later (Gr.alloc _ _).below : KindsB 69 B X)
            have hA := (by rw [hX]; exact Blk.new _ _ _ : Blk X _ z3 59)
            clear hX
            refine hK.out _ _ ?_ (fun hHeld => ?_)
            · exact HKP.out _ bc
            clear hK K
            try simp only [Act.put, List.setIfInBounds_toArray, List.set_cons_zero, List.set_cons_succ]
            refine wpAnyH_ready (rs := [8]) (by kernel_rfl) (by simp) ?_
            refine (AllReadyH.cons (o := { dst := none, op := Op.store 59 (Operand.tmp 3) (Operand.tmp 11), type := 0, pos := "lines.go:47", after := #[{ on := 6, ground := Ground.data }, { on := 3, ground := Ground.data }, { on := 5, ground := Ground.chain }, { on := 0, ground := Ground.phase }, { on := 1, ground := Ground.phase }, { on := 2, ground := Ground.phase }, { on := 3, ground := Ground.phase }, { on := 4, ground := Ground.textOnly Departure.lateStores }, { on := 5, ground := Ground.textOnly Departure.lateStoresUnsure }, { on := 6, ground := Ground.phase }, { on := 7, ground := Ground.phase }], guard := none }) rfl (fun K hK => ?_) AllReadyH.nil)
            · skip
              obtain ⟨a0, a1, az0, az1, al⟩ := hA.twof
              go_simp
              refine nameK ?_
              intro X hX
              have hne := hB.ne_t hA (by decide)
              have hB := (by rw [hX]; exact (hB.other hne _).other hne _ : Blk X _ _ _)
              have hK0 := (by rw [hX]; exact (hK0.other hA (by decide) _ _).other (hA.set 0 (.string u)) (by decide) _ _ : KindsB 69 B X)
              have bc := (by rw [hX]; exact (bc.setCell gA _).setCell gA _ : Below W1.heap.size W1 X)
              have hA := (by rw [hX]; have := (hA.set 0 (.string u)).set 1 (.slice (some ⟨B + k, 0, none⟩) n n); simpa using this : Blk X _ #[.string u, .slice (some ⟨B + k, 0, none⟩) n n] 59)
              clear hX hne a0 a1 az0 az1 al
              refine hK.out _ _ ?_ (fun hHeld => ?_)
              · exact HKP.out _ bc
              clear hK K
              try simp only [Act.put, List.setIfInBounds_toArray, List.set_cons_zero, List.set_cons_succ]
              refine wpAnyH_ready (rs := [9]) (by kernel_rfl) (by simp) ?_
              refine (AllReadyH.cons (o := { dst := none, op := Op.store 78 (Operand.tmp 4) (Operand.tmp 13), type := 0, pos := "lines.go:47", after := #[{ on := 7, ground := Ground.data }, { on := 5, ground := Ground.data }, { on := 8, ground := Ground.chain }, { on := 0, ground := Ground.phase }, { on := 1, ground := Ground.phase }, { on := 2, ground := Ground.phase }, { on := 3, ground := Ground.phase }, { on := 4, ground := Ground.phase }, { on := 5, ground := Ground.phase }, { on := 6, ground := Ground.phase }, { on := 7, ground := Ground.phase }, { on := 8, ground := Ground.phase }], guard := none }) rfl (fun K hK => ?_) AllReadyH.nil)
              · skip
                obtain ⟨p0, p1, p2, p3, pz0, pz1, pz2, pz3, pl⟩ := hB.four
                go_simp
                refine nameK ?_
                intro X hX
                have hne := hA.ne_t hB (by decide)
                have hA := (by rw [hX]; exact (((hA.other hne _).other hne _).other hne _).other hne _ : Blk X _ _ _)
                have hK0 := (by rw [hX]; exact (((hK0.other hB (by decide) _ _).other (hB.set 0 (.string key)) (by decide) _ _).other ((hB.set 0 (.string key)).set 1 (.string name)) (by decide) _ _).other (((hB.set 0 (.string key)).set 1 (.string name)).set 2 (.string val)) (by decide) _ _ : KindsB 69 B X)
                have bc := (by rw [hX]; exact (((bc.setCell gB _).setCell gB _).setCell gB _).setCell gB _ : Below W1.heap.size W1 X)
                have hB := (by rw [hX]; have := (((hB.set 0 (.string key)).set 1 (.string name)).set 2 (.string val)).set 3 (.string dst); simpa using this : Blk X _ #[.string key, .string name, .string val, .string dst] 78)
                clear hX hne p0 p1 p2 p3 pz0 pz1 pz2 pz3 pl
                refine hK.out _ _ ?_ (fun hHeld => ?_)
                · exact HKP.out _ bc
                clear hK K
                try simp only [Act.put, List.setIfInBounds_toArray, List.set_cons_zero, List.set_cons_succ]
                refine wpAnyH_done (by kernel_rfl) ?_ _
                go_wp2
                go_meet
                exact ⟨Lib.hid ⟨_, _, B, rfl, rfl, hA, hB, hK0⟩, Lib.hid bc⟩
        · skip
          have gA := bc.size
          go_simp
          refine nameK ?_
          intro X hX
          have bc := (by rw [hX]; exact bc.alloc bc.size _ : Below W1.heap.size W1 X)
          have hB := (by rw [hX]; exact hB.alloc _ : Blk X _ _ _)
          have hK0 := (by rw [hX]; exact hK0.later (Gr.alloc _ _).below : KindsB 69 B X)
          have hA := (by rw [hX]; exact Blk.new _ _ _ : Blk X _ z3 59)
          clear hX
          refine hK.out _ _ ?_ (fun hHeld => ?_)
          · exact HKP.out _ bc
          clear hK K
          try simp only [Act.put, List.setIfInBounds_toArray, List.set_cons_zero, List.set_cons_succ]
          refine wpAnyH_ready (rs := [5]) (by kernel_rfl) (by simp) ?_
          refine (AllReadyH.cons (o := { dst := some 13, op := Op.call { callee := Callee.value (Operand.func 31), args := #[Operand.tmp 12], argTypes := #[31] }, type := 78, pos := "lines.go:47", after := #[{ on := 4, ground := Ground.data }, { on := 0, ground := Ground.chain }], guard := none }) rfl (fun K hK => ?_) AllReadyH.nil)
          · skip
            go_simp
            go_at_call 31
            (with_reducible refine (HP.out _).mono ?_)
            rintro e X ⟨rfl, hg⟩
            have bc := bc.trans (hg.below.mono bc.size)
            have hK0 := hK0.later hg.below
            have hA := hA.gr hg
            have hB := hB.gr hg
            clear hg
            refine hK.out _ _ ?_ (fun hHeld => ?_)
            · exact HKP.out _ bc
            clear hK K
            skip
            refine wpAnyH_ready (rs := [8]) (by kernel_rfl) (by simp) ?_
            refine (AllReadyH.cons (o := { dst := none, op := Op.store 59 (Operand.tmp 3) (Operand.tmp 11), type := 0, pos := "lines.go:47", after := #[{ on := 6, ground := Ground.data }, { on := 3, ground := Ground.data }, { on := 5, ground := Ground.chain }, { on := 0, ground := Ground.phase }, { on := 1, ground := Ground.phase }, { on := 2, ground := Ground.phase }, { on := 3, ground := Ground.phase }, { on := 4, ground := Ground.textOnly Departure.lateStores }, { on := 5, ground := Ground.textOnly Departure.lateStoresUnsure }, { on := 6, ground := Ground.phase }, { on := 7, ground := Ground.phase }], guard := none }) rfl (fun K hK => ?_) AllReadyH.nil)
            · skip
              obtain ⟨a0, a1, az0, az1, al⟩ := hA.twof
              go_simp
              refine nameK ?_
              intro X hX
              have hne := hB.ne_t hA (by decide)
              have hB := (by rw [hX]; exact (hB.other hne _).other hne _ : Blk X _ _ _)
              have hK0 := (by rw [hX]; exact (hK0.other hA (by decide) _ _).other (hA.set 0 (.string u)) (by decide) _ _ : KindsB 69 B X)
              have bc := (by rw [hX]; exact (bc.setCell gA _).setCell gA _ : Below W1.heap.size W1 X)
              have hA := (by rw [hX]; have := (hA.set 0 (.string u)).set 1 (.slice (some ⟨B + k, 0, none⟩) n n); simpa using this : Blk X _ #[.string u, .slice (some ⟨B + k, 0, none⟩) n n] 59)
              clear hX hne a0 a1 az0 az1 al
              refine hK.out _ _ ?_ (fun hHeld => ?_)
              · exact HKP.out _ bc
              clear hK K
              try simp only [Act.put, List.setIfInBounds_toArray, List.set_cons_zero, List.set_cons_succ]
              refine wpAnyH_ready (rs := [9]) (by kernel_rfl) (by simp) ?_
              refine (AllReadyH.cons (o := { dst := none, op := Op.store 78 (Operand.tmp 4) (Operand.tmp 13), type := 0, pos := "lines.go:47", after := #[{ on := 7, ground := Ground.data }, { on := 5, ground := Ground.data }, { on := 8, ground := Ground.chain }, { on := 0, ground := Ground.phase }, { on := 1, ground := Ground.phase }, { on := 2, ground := Ground.phase }, { on := 3, ground := Ground.phase }, { on := 4, ground := Ground.phase }, { on := 5, ground := Ground.phase }, { on := 6, ground := Ground.phase }, { on := 7, ground := Ground.phase }, { on := 8, ground := Ground.phase }], guard := none }) rfl (fun K hK => ?_) AllReadyH.nil)
              · skip
                obtain ⟨p0, p1, p2, p3, pz0, pz1, pz2, pz3, pl⟩ := hB.four
                go_simp
                refine nameK ?_
                intro X hX
                have hne := hA.ne_t hB (by decide)
                have hA := (by rw [hX]; exact (((hA.other hne _).other hne _).other hne _).other hne _ : Blk X _ _ _)
                have hK0 := (by rw [hX]; exact (((hK0.other hB (by decide) _ _).other (hB.set 0 (.string key)) (by decide) _ _).other ((hB.set 0 (.string key)).set 1 (.string name)) (by decide) _ _).other (((hB.set 0 (.string key)).set 1 (.string name)).set 2 (.string val)) (by decide) _ _ : KindsB 69 B X)
                have bc := (by rw [hX]; exact (((bc.setCell gB _).setCell gB _).setCell gB _).setCell gB _ : Below W1.heap.size W1 X)
                have hB := (by rw [hX]; have := (((hB.set 0 (.string key)).set 1 (.string name)).set 2 (.string val)).set 3 (.string dst); simpa using this : Blk X _ #[.string key, .string name, .string val, .string dst] 78)
                clear hX hne p0 p1 p2 p3 pz0 pz1 pz2 pz3 pl
                refine hK.out _ _ ?_ (fun hHeld => ?_)
                · exact HKP.out _ bc
                clear hK K
                try simp only [Act.put, List.setIfInBounds_toArray, List.set_cons_zero, List.set_cons_succ]
                refine wpAnyH_done (by kernel_rfl) ?_ _
                go_wp2
                go_meet
                exact ⟨Lib.hid ⟨_, _, B, rfl, rfl, hA, hB, hK0⟩, Lib.hid bc⟩
      · skip
        have gA := bc.size
        go_simp
        refine nameK ?_
        intro X hX
        have bc := (by rw [hX]; exact bc.alloc bc.size _ : Below W1.heap.size W1 X)
        have hB := (by rw [hX]; exact hB.alloc _ : Blk X _ _ _)
        have hA := (by rw [hX]; exact Blk.new _ _ _ : Blk X _ z3 59)
        clear hX
        refine hK.out _ _ ?_ (fun hHeld => ?_)
        · exact HKP.out _ bc
        clear hK K
        try simp only [Act.put, List.setIfInBounds_toArray, List.set_cons_zero, List.set_cons_succ]
        refine wpAnyH_ready (rs := [0]) (by kernel_rfl) (by simp) ?_
        refine (AllReadyH.cons (o := { dst := some 8, op := Op.call { callee := Callee.value (Operand.func 30), args := #[], argTypes := #[] }, type := 76, pos := "lines.go:47", after := #[], guard := none }) rfl (fun K hK => ?_) AllReadyH.nil)
        · skip
          go_simp
          go_at_call 30
          (with_reducible refine (HK.out _).mono ?_)
          rintro e X ⟨A, B, rfl, hix, hK0, hg⟩
          have bc := bc.trans (hg.below.mono bc.size)
          have hA := hA.gr hg
          have hB := hB.gr hg
          clear hg
          refine hK.out _ _ ?_ (fun hHeld => ?_)
          · exact HKP.out _ bc
          clear hK K
          try simp only [Act.put, List.setIfInBounds_toArray, List.set_cons_zero, List.set_cons_succ]
          refine takeOn 3 { dst := some 11, op := Op.index 76 (Operand.tmp 8) (Operand.tmp 10), type := 59, pos := "lines.go:47", after := #[{ on := 0, ground := Ground.data }, { on := 2, ground := Ground.data }], guard := none } (v := ?v7) rfl (by kernel_rfl) (by kernel_rfl) (by kernel_rfl) (fun _ _ _ h => h) (by rfl) (by assumption) ?yv7 ?_
          case yv7 =>
            intro w hSw
            try dsimp only at hSw
            go_simp
            try (with_reducible rfl)
          try simp only [Act.put, List.setIfInBounds_toArray, List.set_cons_zero, List.set_cons_succ]
          refine wpAnyH_ready (rs := [5]) (by kernel_rfl) (by simp) ?_
          refine (AllReadyH.cons (o := { dst := some 13, op := Op.call { callee := Callee.value (Operand.func 31), args := #[Operand.tmp 12], argTypes := #[31] }, type := 78, pos := "lines.go:47", after := #[{ on := 4, ground := Ground.data }, { on := 0, ground := Ground.chain }], guard := none }) rfl (fun K hK => ?_) AllReadyH.nil)
          · skip
            go_simp
            go_at_call 31
            (with_reducible refine (HP.out _).mono ?_)
            rintro e X ⟨rfl, hg⟩
            have bc := bc.trans (hg.below.mono bc.size)
            have hK0 := hK0.later hg.below
            have hA := hA.gr hg
            have hB := hB.gr hg
            clear hg
            refine hK.out _ _ ?_ (fun hHeld => ?_)
            · exact HKP.out _ bc
            clear hK K
            skip
            refine wpAnyH_ready (rs := [8]) (by kernel_rfl) (by simp) ?_
            refine (AllReadyH.cons (o := { dst := none, op := Op.store 59 (Operand.tmp 3) (Operand.tmp 11), type := 0, pos := "lines.go:47", after := #[{ on := 6, ground := Ground.data }, { on := 3, ground := Ground.data }, { on := 5, ground := Ground.chain }, { on := 0, ground := Ground.phase }, { on := 1, ground := Ground.phase }, { on := 2, ground := Ground.phase }, { on := 3, ground := Ground.phase }, { on := 4, ground := Ground.textOnly Departure.lateStores }, { on := 5, ground := Ground.textOnly Departure.lateStoresUnsure }, { on := 6, ground := Ground.phase }, { on := 7, ground := Ground.phase }], guard := none }) rfl (fun K hK => ?_) AllReadyH.nil)
            · skip
              obtain ⟨a0, a1, az0, az1, al⟩ := hA.twof
              go_simp
              refine nameK ?_
              intro X hX
              have hne := hB.ne_t hA (by decide)
              have hB := (by rw [hX]; exact (hB.other hne _).other hne _ : Blk X _ _ _)
              have hK0 := (by rw [hX]; exact (hK0.other hA (by decide) _ _).other (hA.set 0 (.string u)) (by decide) _ _ : KindsB 69 B X)
              have bc := (by rw [hX]; exact (bc.setCell gA _).setCell gA _ : Below W1.heap.size W1 X)
              have hA := (by rw [hX]; have := (hA.set 0 (.string u)).set 1 (.slice (some ⟨B + k, 0, none⟩) n n); simpa using this : Blk X _ #[.string u, .slice (some ⟨B + k, 0, none⟩) n n] 59)
              clear hX hne a0 a1 az0 az1 al
              refine hK.out _ _ ?_ (fun hHeld => ?_)
              · exact HKP.out _ bc
              clear hK K
              try simp only [Act.put, List.setIfInBounds_toArray, List.set_cons_zero, List.set_cons_succ]
              refine wpAnyH_ready (rs := [9]) (by kernel_rfl) (by simp) ?_
              refine (AllReadyH.cons (o := { dst := none, op := Op.store 78 (Operand.tmp 4) (Operand.tmp 13), type := 0, pos := "lines.go:47", after := #[{ on := 7, ground := Ground.data }, { on := 5, ground := Ground.data }, { on := 8, ground := Ground.chain }, { on := 0, ground := Ground.phase }, { on := 1, ground := Ground.phase }, { on := 2, ground := Ground.phase }, { on := 3, ground := Ground.phase }, { on := 4, ground := Ground.phase }, { on := 5, ground := Ground.phase }, { on := 6, ground := Ground.phase }, { on := 7, ground := Ground.phase }, { on := 8, ground := Ground.phase }], guard := none }) rfl (fun K hK => ?_) AllReadyH.nil)
              · skip
                obtain ⟨p0, p1, p2, p3, pz0, pz1, pz2, pz3, pl⟩ := hB.four
                go_simp
                refine nameK ?_
                intro X hX
                have hne := hA.ne_t hB (by decide)
                have hA := (by rw [hX]; exact (((hA.other hne _).other hne _).other hne _).other hne _ : Blk X _ _ _)
                have hK0 := (by rw [hX]; exact (((hK0.other hB (by decide) _ _).other (hB.set 0 (.string key)) (by decide) _ _).other ((hB.set 0 (.string key)).set 1 (.string name)) (by decide) _ _).other (((hB.set 0 (.string key)).set 1 (.string name)).set 2 (.string val)) (by decide) _ _ : KindsB 69 B X)
                have bc := (by rw [hX]; exact (((bc.setCell gB _).setCell gB _).setCell gB _).setCell gB _ : Below W1.heap.size W1 X)
                have hB := (by rw [hX]; have := (((hB.set 0 (.string key)).set 1 (.string name)).set 2 (.string val)).set 3 (.string dst); simpa using this : Blk X _ #[.string key, .string name, .string val, .string dst] 78)
                clear hX hne p0 p1 p2 p3 pz0 pz1 pz2 pz3 pl
                refine hK.out _ _ ?_ (fun hHeld => ?_)
                · exact HKP.out _ bc
                clear hK K
                try simp only [Act.put, List.setIfInBounds_toArray, List.set_cons_zero, List.set_cons_succ]
                refine wpAnyH_done (by kernel_rfl) ?_ _
                go_wp2
                go_meet
                exact ⟨Lib.hid ⟨_, _, B, rfl, rfl, hA, hB, hK0⟩, Lib.hid bc⟩
  case rest =>
    obtain ⟨h1, h2⟩ := hcut
    obtain ⟨g, g', B, rfl, rfl, hb3, hb4, hk3⟩ := h1.out
    obtain ⟨wd, rfl⟩ : ∃ x : World, x = wc := ⟨_, rfl⟩
    have G2 := Lib.hid (G1.out.trans (h2.out.mono G1.out.size))
    have HB4 := Lib.hid hb4
    have HKC := Lib.hid (hk3 k H8.out.1 H8.out.2)
    obtain ⟨c0, c1, lg⟩ := hb3.two
    have hn3 : n ≤ 3 := by rw [HN.out]; exact hasL_len k
    have HS4 := Lib.hid (sizes_of HR.out)
    clear h1 h2 b1 g1 hb3 hb4 hk3 HK HP HR lb1
    go_wp2
    go_loop [5, 19] (fun s5 s19 => ∃ (j : Nat) (v : ByteArray), j ≤ n ∧ s19 = .int .i64 (j : Int) ∧ s5 = .string v ∧ v.size ≤ 7 + 43 * j ∧ Hid (v = lb (outL k ⟨k, key, name, val, dst⟩ j))) (fun _ s19 => 4 - (intOf s19).toNat)
    case atStart => exact ⟨0, u, by omega, rfl, rfl, by rw [HU.out, lb_size]; exact word_len k, Lib.hid (by rw [HU.out]; simp [outL])⟩
    case round =>
      obtain ⟨j, v, hj, rfl, rfl, hvs, HV⟩ := hrel
      by_cases hlt : j < n
      · have hlt' : j < (hasL k).length := by have := HN.out; omega
        obtain ⟨p, hp4, hp⟩ := hasL_lt hlt'
        have e0 : wd.cell? ⟨B + k, j, none⟩ = some (.int .i64 (p : Int)) := by
          rw [HKC.out.cell, List.getElem?_toArray, List.getElem?_map, List.getElem?_eq_getElem hlt', hp]
          rfl
        obtain ⟨s, hs⟩ : ∃ s, s = (Chg.mk k key name val dst).part p := ⟨_, rfl⟩
        have e1 : wd.cell? ⟨g', p, none⟩ = some (.string s) := by
          rw [HB4.out.cell, hs]
          rcases (by omega : p = 0 ∨ p = 1 ∨ p = 2 ∨ p = 3) with rfl | rfl | rfl | rfl <;> rfl
        have HO := Lib.hid (outL_succ (c := ⟨k, key, name, val, dst⟩) hlt')
        rw [hp, Int.toNat_natCast, ← hs] at HO
        have hss : s.size ≤ 40 := by
          obtain ⟨z1, z2, z3, z4⟩ := HS4.out
          rw [hs]
          unfold Chg.part
          split
          · exact z1
          · split
            · exact z2
            · split
              · exact z3
              · exact z4
        have hqs := wordP_len (p : Int) (bl s)
        have i4 : (p : Int) < 4 := by omega
        clear hs hp hlt'
        go_wp2_with fail
        refine (word_any p s hss _).mono ?_
        rintro e w' ⟨rfl, rfl⟩
        obtain ⟨q, hq⟩ : ∃ q, q = lb (wordP (p : Int) (bl s)) := ⟨_, rfl⟩
        rw [← hq]
        have hqz : q.size ≤ 42 := by rw [hq, lb_size]; rw [bl_len] at hqs; omega
        have HQ := Lib.hid hq
        clear hq hqs
        go_wp2
        go_round
        case rel => exact ⟨j + 1, _, by omega, by go_num, rfl, by have h32 : (⟨#[32]⟩ : ByteArray).size = 1 := rfl; simp; omega, Lib.hid (bl_inj (by rw [bl_lb, HO.out, HV.out, HQ.out]; simp))⟩
        case measure => simp [intOf]; omega
      · obtain rfl : j = n := by omega
        have HF := Lib.hid (show lb (outL k ⟨k, key, name, val, dst⟩ j) = lineB ⟨k, key, name, val, dst⟩ by rw [HN.out, outL_all H8.out.1 H8.out.2, lineB])
        go_wp2
        go_ret
        exact ⟨by rw [← HF.out, ← HV.out]; rfl, G2.out⟩
end Go.Proofs.YtoajaacdhkknfaaDoor

