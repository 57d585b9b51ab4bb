/- WideOrder's law answers true: sums do not depend on the order, products neither, Compare turns its sign, and a product of a sum is the sum of the products. -/
import Derived.Test.YtfknocgmobddmaaO3
import Derived.Test.YtfknocgmobddmaaKitB
import Derived.Deep.RegionHeld3
namespace Go.Proofs.Ytfknocgmobddmaa
open Go.RowKit Go.Proofs.Kit Go.Shelf Go.Lib
set_option maxRecDepth 100000 in
set_option maxHeartbeats 1000000 in
theorem order_true (o : Option Addr) (cap : Nat) (l : List (Int × Int)) (hlc : l.length ≤ cap) (_hm : cap ≤ maxLen) (a b c d : Int) (ha : Wd a) (hb : Wd b) (hc : Wd c) (hd : Wd d) (w : World) (hl : ArgW w o cap l) (hp : ∀ p ∈ l, Wp p) :
    Calls Try.prog 8 #[.slice o l.length cap, WV a b, WV c d] w fun e w' => e = .returned (.bool true) ∧ Below w.heap.size w w' := by
  have HA := Lib.hid hl; clear hl
  have HP := Lib.hid hp; clear hp
  obtain ⟨len, hlen⟩ : ∃ n, n = l.length := ⟨_, rfl⟩
  rw [← hlen] at hlc ⊢
  have HL := Lib.hid hlen; clear hlen
  go_enter Try.func8, Try.ntmps8
  go_wp2_with fail
  refine (wakes_true _).mono ?_
  rintro e w1 ⟨rfl, h1⟩
  have bA : Blk w1 w.heap.size #[.int .u64 a, .int .u64 b] 26 := ((Blk.new _ _ _).alloc _).later h1
  have bB : Blk w1 (w.heap.size + 1) #[.int .u64 c, .int .u64 d] 26 := (blk_at _ _ _ (by simp)).later h1
  have B1 : Below w.heap.size w w1 := (below2 w _ _).trans (h1.mono (by simp; omega))
  clear h1
  go_wp2_with fail
  refine (clone_arg o _ cap l w w1 HA.out (by rw [HL.out]; omega) B1).mono ?_
  rintro e w2 ⟨v, rfl, hO, h2⟩
  obtain ⟨m, hm12, HPm, hS⟩ : ∃ m : List (Int × Int), m.length ≤ 12 ∧ RowKit.Hid (∀ p ∈ m, Wp p) ∧ m = l.take 12 := ⟨_, by rw [List.length_take]; omega, Lib.hid fun p hp => HP.out p (List.mem_of_mem_take hp), rfl⟩
  rw [← hS] at hO
  clear hS HL HP HA hlc
  have q1 := hO.apart_below bA.lt
  have q2 := hO.apart_below bB.lt
  obtain ⟨o', c', rfl⟩ := hO.slice
  have bA := bA.later h2
  have bB := bB.later h2
  have B2 := below_later B1 h2
  have hgB := B1.size
  clear h2 B1
  go_wp2_with fail
  refine (sum_res _ m _ (hO.wides HPm.out hm12)).mono ?_
  rintro e w3 ⟨rfl, h3⟩
  have bA := bA.later h3
  have bB := bB.later h3
  have hO := hO.later h3
  have B3 := below_later B2 h3
  clear h3 B2
  obtain ⟨S, hS⟩ : ∃ S, S = sumN m := ⟨_, rfl⟩
  rw [← hS]
  have HS := Lib.hid hS; clear hS
  go_upto_region 5 with fail
  have q3 := hO.apart
  have bS := Blk.new w3 #[.int .u64 (hiW (rv S)), .int .u64 (loW (rv S))] 26
  have bA := bA.alloc (.cells #[.int .u64 (hiW (rv S)), .int .u64 (loW (rv S))] 26)
  have bB := bB.alloc (.cells #[.int .u64 (hiW (rv S)), .int .u64 (loW (rv S))] 26)
  have hO := hO.alloc (.cells #[.int .u64 (hiW (rv S)), .int .u64 (loW (rv S))] 26)
  have B4 := B3.alloc B3.size (.cells #[.int .u64 (hiW (rv S)), .int .u64 (loW (rv S))] 26)
  clear B3
  obtain ⟨n, hn⟩ : ∃ n, n = m.length := ⟨_, rfl⟩
  rw [← hn] at q1 q2 q3 hO ⊢
  have HN := Lib.hid hn; clear hn
  obtain ⟨kS, hkS⟩ : ∃ k, k = w3.heap.size := ⟨_, rfl⟩
  rw [← hkS] at q3 bS ⊢
  obtain ⟨w4, hw4⟩ : ∃ w4, w4 = w3.alloc (.cells #[.int .u64 (hiW (rv S)), .int .u64 (loW (rv S))] 26) := ⟨_, rfl⟩
  rw [← hw4] at bA bB bS hO B4 ⊢
  clear hw4
  go_wp2_with fail
  refine (sort_own w1.heap.size _ m _ hm12 hO).mono ?_
  rintro e w5 ⟨rfl, l', hperm, hO', h5, hk5⟩
  have bA := hk5 _ _ _ q1 bA
  have bB := hk5 _ _ _ q2 bB
  have bS := hk5 _ _ _ q3 bS
  have B5 := B4.trans (h5.mono hgB)
  clear h5 hk5 q1 q2 q3 B4 hO hkS
  have HN' := Lib.hid (HN.out.trans hperm.length_eq.symm)
  have HPl : RowKit.Hid (∀ p ∈ l', Wp p) := Lib.hid fun p hp => HPm.out p (hperm.mem_iff.1 hp)
  have h12 : RowKit.Hid (l'.length ≤ 12) := Lib.hid (by rw [hperm.length_eq]; exact hm12)
  have eS : RowKit.Hid (sumN l' = S) := Lib.hid ((sumN_perm hperm).trans HS.out.symm)
  clear hperm HS HPm hm12 HN
  go_wp2_with fail
  refine (sum_res _ l' _ (hO'.wides HPl.out h12.out)).mono ?_
  rintro e w6 ⟨rfl, h6⟩
  rw [eS.out]
  have bA := bA.later h6
  have bB := bB.later h6
  have bS := bS.later h6
  have hO := hO'.later h6
  have B6 := below_later B5 h6
  clear h6 B5 hO' eS
  obtain ⟨cA0, cA1, lA⟩ := bA.two
  obtain ⟨cB0, cB1, lB⟩ := bB.two
  go_wp2_with fail
  refine (mul_res a b c d ha hb hc hd _ rfl _).mono ?_
  rintro e w7 ⟨rfl, h7⟩
  obtain ⟨P, hP⟩ : ∃ P, P = num (a, b) * num (c, d) := ⟨_, rfl⟩
  rw [← hP]
  have HPr := Lib.hid hP; clear hP
  have bA := bA.al h7
  have bB := bB.al h7
  have bS := bS.al h7
  have bT := Blk.nw h7
  have hO := (hO.alloc _).later h7
  have B7 := below_al B6 h7
  obtain ⟨kT, hkT⟩ : ∃ k, k = w6.heap.size := ⟨_, rfl⟩
  rw [← hkT] at bT ⊢
  clear h7 B6 cA0 cA1 cB0 cB1 lA lB hkT
  obtain ⟨cA0, cA1, lA⟩ := bA.two
  obtain ⟨cB0, cB1, lB⟩ := bB.two
  go_wp2_with fail
  refine (mul_res c d a b hc hd ha hb P (by rw [HPr.out, Int.mul_comm]) _).mono ?_
  rintro e w8 ⟨rfl, h8⟩
  have bA := bA.al h8
  have bB := bB.al h8
  have bS := bS.al h8
  have bT := bT.al h8
  have bX := Blk.nw h8
  have hO := (hO.alloc _).later h8
  have B8 := below_al B7 h8
  obtain ⟨kX, hkX⟩ : ∃ k, k = w7.heap.size := ⟨_, rfl⟩
  rw [← hkX] at bX ⊢
  clear h8 B7 cA0 cA1 cB0 cB1 lA lB hkX
  go_upto_region 9 with fail
  have hT : Six w a b c d (hiW (rv S)) (loW (rv S)) (hiW (rv P)) (loW (rv P)) kS kT kX w8.heap.size (w8.alloc (.cells #[.int .u64 (hiW (rv P)), .int .u64 (loW (rv P))] 26)) :=
    ⟨bA.alloc _, bB.alloc _, bS.alloc _, bT.alloc _, bX.alloc _, Blk.new _ _ _, B8.alloc B8.size _⟩
  have hO := hO.alloc (.cells #[.int .u64 (hiW (rv P)), .int .u64 (loW (rv P))] 26)
  clear bA bB bS bT bX B8
  obtain ⟨kY, hkY⟩ : ∃ k, k = w8.heap.size := ⟨_, rfl⟩
  obtain ⟨w9, hw9⟩ : ∃ w9, w9 = w8.alloc (.cells #[.int .u64 (hiW (rv P)), .int .u64 (loW (rv P))] 26) := ⟨_, rfl⟩
  rw [← hkY, ← hw9] at hT ⊢
  rw [← hw9] at hO
  clear hkY hw9
  go_cut [84] (fun s84 wx => s84 = .bool false ∧ Six w a b c d (hiW (rv S)) (loW (rv S)) (hiW (rv P)) (loW (rv P)) kS kT kX kY wx ∧ Below w9.heap.size w9 wx)
  case first =>
    have hL : Below w9.heap.size w9 w9 := Below.refl _ _
    obtain ⟨n, hn⟩ : ∃ n, n = ord (num (a, b)) (num (c, d)) := ⟨_, rfl⟩
    have hm : -n = ord (num (c, d)) (num (a, b)) := by rw [hn]; exact (ord_neg _ _).symm
    have h3 : n = -1 ∨ n = 0 ∨ n = 1 := by rw [hn]; unfold ord; split <;> (try split) <;> simp
    have HN1 := Lib.hid hn; clear hn
    have HM1 := Lib.hid hm; clear hm
    have heq : ∀ x y w, (binOp .neq 26 (.agg #[.int .u64 x, .int .u64 y]) (.agg #[.int .u64 x, .int .u64 y])).run Try.prog w = .ok (.bool false) w := fun x y w => by rw [neq_wide]; simp [sameW]
    rcases h3 with rfl | rfl | rfl
    all_goals
      refine wp_region_held_drew (S := fun w' => (w'.cell? ⟨w.heap.size, 0, none⟩ = some (.int .u64 a) ∧ w'.cell? ⟨w.heap.size, 1, none⟩ = some (.int .u64 b) ∧ w'.cell? ⟨w.heap.size + 1, 0, none⟩ = some (.int .u64 c) ∧ w'.cell? ⟨w.heap.size + 1, 1, none⟩ = some (.int .u64 d) ∧ w'.cell? ⟨kS, 0, none⟩ = some (.int .u64 (hiW (rv S))) ∧ w'.cell? ⟨kS, 1, none⟩ = some (.int .u64 (loW (rv S))) ∧ w'.cell? ⟨kT, 0, none⟩ = some (.int .u64 (hiW (rv S))) ∧ w'.cell? ⟨kT, 1, none⟩ = some (.int .u64 (loW (rv S))) ∧ w'.cell? ⟨kX, 0, none⟩ = some (.int .u64 (hiW (rv P))) ∧ w'.cell? ⟨kX, 1, none⟩ = some (.int .u64 (loW (rv P))) ∧ w'.cell? ⟨kY, 0, none⟩ = some (.int .u64 (hiW (rv P))) ∧ w'.cell? ⟨kY, 1, none⟩ = some (.int .u64 (loW (rv P)))) ∧ Six w a b c d (hiW (rv S)) (loW (rv S)) (hiW (rv P)) (loW (rv P)) kS kT kX kY w' ∧ Below w9.heap.size w9 w') (by kernel_rfl) ⟨hT.drew.cells, hT.drew, hL.drew⟩ (fun hHeld => ?_)
      clear hT hL
      refine wpAnyH_take (i := 0) (v := ?_) rfl (by kernel_rfl) (by kernel_rfl) (by kernel_rfl) (fun _ _ _ h => h) (Or.inl ⟨by rfl, ?_⟩) hHeld ?_
      rotate_left
      · intro w1 hSw; (try dsimp only at hSw); go_simp; with_reducible rfl
      simp only [Act.put, List.getElem_toArray, List.getElem_cons_zero, List.setIfInBounds_toArray, List.set_cons_zero, List.set_cons_succ]
      refine wpAnyH_take (i := 1) (v := ?_) rfl (by kernel_rfl) (by kernel_rfl) (by kernel_rfl) (fun _ _ _ h => h) (Or.inl ⟨by rfl, ?_⟩) hHeld ?_
      rotate_left
      · intro w1 hSw; (try dsimp only at hSw); go_simp; with_reducible rfl
      simp only [Act.put, List.getElem_toArray, List.getElem_cons_zero, List.getElem_cons_succ, List.setIfInBounds_toArray, List.set_cons_zero, List.set_cons_succ]
      refine wpAnyH_take (i := 2) (v := ?_) rfl (by kernel_rfl) (by kernel_rfl) (by kernel_rfl) (fun _ _ _ h => h) (Or.inl ⟨by rfl, ?_⟩) hHeld ?_
      rotate_left
      · intro w1 hSw; (try dsimp only at hSw); go_simp; with_reducible rfl
      simp only [Act.put, List.getElem_toArray, List.getElem_cons_zero, List.getElem_cons_succ, List.setIfInBounds_toArray, List.set_cons_zero, List.set_cons_succ]
      refine wpAnyH_take (i := 3) (v := ?_) rfl (by kernel_rfl) (by kernel_rfl) (by kernel_rfl) (fun _ _ _ h => h) (Or.inl ⟨by rfl, ?_⟩) hHeld ?_
      rotate_left
      · intro w1 hSw; (try dsimp only at hSw); go_simp; with_reducible rfl
      simp only [Act.put, List.getElem_toArray, List.getElem_cons_zero, List.getElem_cons_succ, List.setIfInBounds_toArray, List.set_cons_zero, List.set_cons_succ]
      refine wpAnyH_take (i := 4) (v := ?_) rfl (by kernel_rfl) (by kernel_rfl) (by kernel_rfl) (fun _ _ _ h => h) (Or.inl ⟨by rfl, ?_⟩) hHeld ?_
      rotate_left
      · intro w1 hSw; (try dsimp only at hSw); go_simp; with_reducible rfl
      simp only [Act.put, List.getElem_toArray, List.getElem_cons_zero, List.getElem_cons_succ, List.setIfInBounds_toArray, List.set_cons_zero, List.set_cons_succ]
      refine wpAnyH_take (i := 5) (v := ?_) rfl (by kernel_rfl) (by kernel_rfl) (by kernel_rfl) (fun _ _ _ h => h) (Or.inl ⟨by rfl, ?_⟩) hHeld ?_
      rotate_left
      · intro w1 hSw; (try dsimp only at hSw); go_simp; with_reducible rfl
      simp only [Act.put, List.getElem_toArray, List.getElem_cons_zero, List.getElem_cons_succ, List.setIfInBounds_toArray, List.set_cons_zero, List.set_cons_succ]
      refine wpAnyH_take (i := 6) (v := ?_) rfl (by kernel_rfl) (by kernel_rfl) (by kernel_rfl) (fun _ _ _ h => h) (Or.inl ⟨by rfl, ?_⟩) hHeld ?_
      rotate_left
      · intro w1 hSw; (try dsimp only at hSw); go_simp; with_reducible rfl
      simp only [Act.put, List.getElem_toArray, List.getElem_cons_zero, List.getElem_cons_succ, List.setIfInBounds_toArray, List.set_cons_zero, List.set_cons_succ]
      refine wpAnyH_take (i := 7) (v := ?_) rfl (by kernel_rfl) (by kernel_rfl) (by kernel_rfl) (fun _ _ _ h => h) (Or.inl ⟨by rfl, ?_⟩) hHeld ?_
      rotate_left
      · intro w1 hSw; (try dsimp only at hSw); go_simp; with_reducible rfl
      simp only [Act.put, List.getElem_toArray, List.getElem_cons_zero, List.getElem_cons_succ, List.setIfInBounds_toArray, List.set_cons_zero, List.set_cons_succ]
      refine wpAnyH_take (i := 8) (v := ?_) rfl (by kernel_rfl) (by kernel_rfl) (by kernel_rfl) (fun _ _ _ h => h) (Or.inl ⟨by rfl, ?_⟩) hHeld ?_
      rotate_left
      · intro w1 hSw; (try dsimp only at hSw); go_simp; with_reducible rfl
      simp only [Act.put, List.getElem_toArray, List.getElem_cons_zero, List.getElem_cons_succ, List.setIfInBounds_toArray, List.set_cons_zero, List.set_cons_succ]
      refine wpAnyH_take (i := 9) (v := ?_) rfl (by kernel_rfl) (by kernel_rfl) (by kernel_rfl) (fun _ _ _ h => h) (Or.inl ⟨by rfl, ?_⟩) hHeld ?_
      rotate_left
      · intro w1 hSw; (try dsimp only at hSw); go_simp; with_reducible rfl
      simp only [Act.put, List.getElem_toArray, List.getElem_cons_zero, List.getElem_cons_succ, List.setIfInBounds_toArray, List.set_cons_zero, List.set_cons_succ]
      refine wpAnyH_take (i := 10) (v := ?_) rfl (by kernel_rfl) (by kernel_rfl) (by kernel_rfl) (fun _ _ _ h => h) (Or.inl ⟨by rfl, ?_⟩) hHeld ?_
      rotate_left
      · intro w1 hSw; (try dsimp only at hSw); go_simp; with_reducible rfl
      simp only [Act.put, List.getElem_toArray, List.getElem_cons_zero, List.getElem_cons_succ, List.setIfInBounds_toArray, List.set_cons_zero, List.set_cons_succ]
      refine wpAnyH_take (i := 11) (v := ?_) rfl (by kernel_rfl) (by kernel_rfl) (by kernel_rfl) (fun _ _ _ h => h) (Or.inl ⟨by rfl, ?_⟩) hHeld ?_
      rotate_left
      · intro w1 hSw; (try dsimp only at hSw); go_simp; with_reducible rfl
      simp only [Act.put, List.getElem_toArray, List.getElem_cons_zero, List.getElem_cons_succ, List.setIfInBounds_toArray, List.set_cons_zero, List.set_cons_succ]
      refine wpAnyH_take (i := 12) (v := ?_) rfl (by kernel_rfl) (by kernel_rfl) (by kernel_rfl) (fun _ _ _ h => h) (Or.inl ⟨by rfl, ?_⟩) hHeld ?_
      rotate_left
      · intro w1 hSw; (try dsimp only at hSw); go_simp; with_reducible rfl
      simp only [Act.put, List.getElem_toArray, List.getElem_cons_zero, List.getElem_cons_succ, List.setIfInBounds_toArray, List.set_cons_zero, List.set_cons_succ]
      refine wpAnyH_take (i := 13) (v := ?_) rfl (by kernel_rfl) (by kernel_rfl) (by kernel_rfl) (fun _ _ _ h => h) (Or.inl ⟨by rfl, ?_⟩) hHeld ?_
      rotate_left
      · intro w1 hSw; (try dsimp only at hSw); go_simp; with_reducible rfl
      simp only [Act.put, List.getElem_toArray, List.getElem_cons_zero, List.getElem_cons_succ, List.setIfInBounds_toArray, List.set_cons_zero, List.set_cons_succ]
      refine wpAnyH_take (i := 14) (v := ?_) rfl (by kernel_rfl) (by kernel_rfl) (by kernel_rfl) (fun _ _ _ h => h) (Or.inl ⟨by rfl, ?_⟩) hHeld ?_
      rotate_left
      · intro w1 hSw; (try dsimp only at hSw); go_simp; with_reducible rfl
      simp only [Act.put, List.getElem_toArray, List.getElem_cons_zero, List.getElem_cons_succ, List.setIfInBounds_toArray, List.set_cons_zero, List.set_cons_succ]
      refine wpAnyH_take (i := 15) (v := ?_) rfl (by kernel_rfl) (by kernel_rfl) (by kernel_rfl) (fun _ _ _ h => h) (Or.inl ⟨by rfl, ?_⟩) hHeld ?_
      rotate_left
      · intro w1 hSw; (try dsimp only at hSw); go_simp; with_reducible rfl
      simp only [Act.put, List.getElem_toArray, List.getElem_cons_zero, List.getElem_cons_succ, List.setIfInBounds_toArray, List.set_cons_zero, List.set_cons_succ]
      refine wpAnyH_take (i := 16) (v := ?_) rfl (by kernel_rfl) (by kernel_rfl) (by kernel_rfl) (fun _ _ _ h => h) (Or.inl ⟨by rfl, ?_⟩) hHeld ?_
      rotate_left
      · intro w1 hSw; (try dsimp only at hSw); go_simp; with_reducible rfl
      simp only [Act.put, List.getElem_toArray, List.getElem_cons_zero, List.getElem_cons_succ, List.setIfInBounds_toArray, List.set_cons_zero, List.set_cons_succ]
      refine wpAnyH_take (i := 17) (v := ?_) rfl (by kernel_rfl) (by kernel_rfl) (by kernel_rfl) (fun _ _ _ h => h) (Or.inl ⟨by rfl, ?_⟩) hHeld ?_
      rotate_left
      · intro w1 hSw; (try dsimp only at hSw); go_simp; with_reducible rfl
      simp only [Act.put, List.getElem_toArray, List.getElem_cons_zero, List.getElem_cons_succ, List.setIfInBounds_toArray, List.set_cons_zero, List.set_cons_succ]
      refine wpAnyH_take (i := 18) (v := ?_) rfl (by kernel_rfl) (by kernel_rfl) (by kernel_rfl) (fun _ _ _ h => h) (Or.inl ⟨by rfl, ?_⟩) hHeld ?_
      rotate_left
      · intro w1 hSw; (try dsimp only at hSw); go_simp; with_reducible rfl
      simp only [Act.put, List.getElem_toArray, List.getElem_cons_zero, List.getElem_cons_succ, List.setIfInBounds_toArray, List.set_cons_zero, List.set_cons_succ]
      refine wpAnyH_take (i := 19) (v := ?_) rfl (by kernel_rfl) (by kernel_rfl) (by kernel_rfl) (fun _ _ _ h => h) (Or.inl ⟨by rfl, ?_⟩) hHeld ?_
      rotate_left
      · intro w1 hSw; (try dsimp only at hSw); go_simp; with_reducible rfl
      simp only [Act.put, List.getElem_toArray, List.getElem_cons_zero, List.getElem_cons_succ, List.setIfInBounds_toArray, List.set_cons_zero, List.set_cons_succ]
      refine wpAnyH_take (i := 20) (v := ?_) rfl (by kernel_rfl) (by kernel_rfl) (by kernel_rfl) (fun _ _ _ h => h) (Or.inl ⟨by rfl, ?_⟩) hHeld ?_
      rotate_left
      · intro w1 hSw; (try dsimp only at hSw); go_simp; with_reducible rfl
      simp only [Act.put, List.getElem_toArray, List.getElem_cons_zero, List.getElem_cons_succ, List.setIfInBounds_toArray, List.set_cons_zero, List.set_cons_succ]
      refine wpAnyH_take (i := 22) (v := ?_) rfl (by kernel_rfl) (by kernel_rfl) (by kernel_rfl) (fun _ _ _ h => h) (Or.inl ⟨by rfl, ?_⟩) hHeld ?_
      rotate_left
      · intro w1 hSw; (try dsimp only at hSw); go_simp; with_reducible rfl
      simp only [Act.put, List.getElem_toArray, List.getElem_cons_zero, List.getElem_cons_succ, List.setIfInBounds_toArray, List.set_cons_zero, List.set_cons_succ]
      refine wpAnyH_take (i := 23) (v := ?_) rfl (by kernel_rfl) (by kernel_rfl) (by kernel_rfl) (fun _ _ _ h => h) (Or.inl ⟨by rfl, ?_⟩) hHeld ?_
      rotate_left
      · intro w1 hSw; (try dsimp only at hSw); go_simp; with_reducible rfl
      simp only [Act.put, List.getElem_toArray, List.getElem_cons_zero, List.getElem_cons_succ, List.setIfInBounds_toArray, List.set_cons_zero, List.set_cons_succ]
      refine wpAnyH_ready (rs := [21]) (by kernel_rfl) (by simp) ?_
      refine AllReadyH.cons rfl (fun K hK => ?_) AllReadyH.nil
      go_simp
      refine (cmp_one a b c d _ hb hd HN1.out _).mono ?_
      rintro e w' ⟨rfl, hbl⟩
      have hL := below_later hHeld.2.2 hbl
      have hT := hHeld.2.1.later hbl
      refine hK.out _ _ ⟨hT.cells, hT, hL⟩ (fun hHeld => ?_)
      clear hK K hbl
      refine wpAnyH_ready (rs := [24]) (by kernel_rfl) (by simp) ?_
      refine AllReadyH.cons rfl (fun K hK => ?_) AllReadyH.nil
      go_simp
      refine (cmp_one c d a b _ hd hb HM1.out _).mono ?_
      rintro e w' ⟨rfl, hbl⟩
      have hL := below_later hHeld.2.2 hbl
      have hT := hHeld.2.1.later hbl
      refine hK.out _ _ ⟨hT.cells, hT, hL⟩ (fun hHeld => ?_)
      clear hK K hbl
      refine wpAnyH_take (i := 25) (v := ?_) rfl (by kernel_rfl) (by kernel_rfl) (by kernel_rfl) (fun _ _ _ h => h) (Or.inl ⟨by rfl, ?_⟩) hHeld ?_
      rotate_left
      · intro w1 hSw; (try dsimp only at hSw); go_simp; with_reducible rfl
      simp only [Act.put, List.getElem_toArray, List.getElem_cons_zero, List.getElem_cons_succ, List.setIfInBounds_toArray, List.set_cons_zero, List.set_cons_succ]
      refine wpAnyH_take (i := 26) (v := ?_) rfl (by kernel_rfl) (by kernel_rfl) (by kernel_rfl) (fun _ _ _ h => h) (Or.inl ⟨by rfl, ?_⟩) hHeld ?_
      rotate_left
      · intro w1 hSw; (try dsimp only at hSw); go_simp; with_reducible rfl
      simp only [Act.put, List.getElem_toArray, List.getElem_cons_zero, List.getElem_cons_succ, List.setIfInBounds_toArray, List.set_cons_zero, List.set_cons_succ]
      refine wpAnyH_take (i := 27) (v := ?_) rfl (by kernel_rfl) (by kernel_rfl) (by kernel_rfl) (fun _ _ _ h => h) (Or.inl ⟨by rfl, ?_⟩) hHeld ?_
      rotate_left
      · intro w1 hSw; (try dsimp only at hSw); go_simp; with_reducible rfl
      simp only [Act.put, List.getElem_toArray, List.getElem_cons_zero, List.getElem_cons_succ, List.setIfInBounds_toArray, List.set_cons_zero, List.set_cons_succ]
      refine wpAnyH_done (by kernel_rfl) ?_ _
      go_wp2_with fail
      go_meet
      exact ⟨rfl, hHeld.2.1, hHeld.2.2⟩
  case rest =>
    obtain ⟨rfl, hT, h10⟩ := hcut
    have hO := hO.later h10
    clear h10
    have heq : ∀ x y w, (binOp .neq 26 (.agg #[.int .u64 x, .int .u64 y]) (.agg #[.int .u64 x, .int .u64 y])).run Try.prog w = .ok (.bool false) w := fun x y w => by rw [neq_wide]; simp [sameW]
    have HA := Lib.hid (num_pos (p := (a, b)) ⟨ha, hb⟩).1
    have HB := Lib.hid (num_pos (p := (c, d)) ⟨hc, hd⟩).1
    have hn12 : n ≤ 12 := by rw [HN'.out]; exact h12.out
    go_wp2_with fail
    go_loopw [87] (fun i wr => ∃ k : Nat, k ≤ n ∧ i = .int .i64 k ∧ Six w a b c d (hiW (rv S)) (loW (rv S)) (hiW (rv P)) (loW (rv P)) kS kT kX kY wr ∧ OwnW w1.heap.size wr (.slice o' n c') l') (fun i _ => n - (intOf i).toNat)
    case atStart => exact ⟨0, Nat.zero_le _, rfl, hT, hO⟩
    case round =>
      clear hT hO
      obtain ⟨k, hk, rfl, hT, hO⟩ := hrel
      by_cases hlt : k < n
      · have hkl : k < l'.length := by rw [← HN'.out]; exact hlt
        obtain ⟨g, cur, hog, hbg, hcl⟩ : ∃ g cur, o' = some ⟨g, 0, none⟩ ∧ Blk wr g cur 26 ∧ ∀ k (h : k < l'.length), cur[k * 2]? = some (.int .u64 l'[k].1) ∧ cur[k * 2 + 1]? = some (.int .u64 l'[k].2) := by
          rcases hO with ⟨_, h0⟩ | ⟨g, cap', cur, e, _, hb1, hc1⟩
          · rw [h0] at hkl; simp at hkl
          · injection e with e1 e2 e3
            exact ⟨g, cur, e1, hb1, hc1⟩
        subst hog
        have c0 := (hbg.cell (k * 2)).trans (hcl k hkl).1
        have c1 := (hbg.cell (k * 2 + 1)).trans (hcl k hkl).2
        have hwp : Wp l'[k] := HPl.out _ (List.getElem_mem hkl)
        obtain ⟨⟨x, y⟩, hxy⟩ : ∃ q, q = l'[k] := ⟨_, rfl⟩
        rw [← hxy] at c0 c1 hwp
        simp only at c0 c1
        have hgl := hbg.lt
        clear hxy hcl hkl
        obtain ⟨cA0, cA1, lA⟩ := hT.bA.two
        obtain ⟨cB0, cB1, lB⟩ := hT.bB.two
        go_wp2_with fail
        refine (add_res c d x y hc hd hwp.1 hwp.2 _ rfl _).mono ?_
        rintro e v1 ⟨rfl, j1⟩
        obtain ⟨S1, hS1⟩ : ∃ S, S = num (c, d) + num (x, y) := ⟨_, rfl⟩
        rw [← hS1]
        have HS1 := Lib.hid hS1; clear hS1
        have HC := Lib.hid (num_pos (p := (x, y)) hwp).1
        have hS10 : RowKit.Hid (0 ≤ S1) := Lib.hid (by rw [HS1.out]; exact Int.add_nonneg HB.out HC.out)
        have hT := (hT.alloc _).later j1
        have hO := (hO.alloc _).later j1
        have bC := Blk.nw j1
        obtain ⟨kC, hkC⟩ : ∃ k, k = wr.heap.size := ⟨_, rfl⟩
        rw [← hkC] at bC ⊢
        clear j1 cA0 cA1 lA cB0 cB1 lB c0 c1 hgl hbg hkC
        obtain ⟨cA0, cA1, lA⟩ := hT.bA.two
        go_wp2_with fail
        refine (mul_res a b (hiW (rv S1)) (loW (rv S1)) ha hb (hi_rv hS10.out) (loW_wd _) (num (a, b) * rv S1) (by rw [num_hl]) _).mono ?_
        rintro e v2 ⟨rfl, j2⟩
        obtain ⟨S2, hS2⟩ : ∃ S, S = num (a, b) * rv S1 := ⟨_, rfl⟩
        rw [← hS2]
        have HS2 := Lib.hid hS2; clear hS2
        have hT := (hT.alloc _).later j2
        have hO := (hO.alloc _).later j2
        have bC := bC.al j2
        clear j2 cA0 cA1 lA
        obtain ⟨cA0, cA1, lA⟩ := hT.bA.two
        obtain ⟨cC0, cC1, lC⟩ := bC.two
        go_wp2_with fail
        refine (mul_res a b x y ha hb hwp.1 hwp.2 _ rfl _).mono ?_
        rintro e v3 ⟨rfl, j3⟩
        obtain ⟨S3, hS3⟩ : ∃ S, S = num (a, b) * num (x, y) := ⟨_, rfl⟩
        rw [← hS3]
        have HS3 := Lib.hid hS3; clear hS3
        have hS30 : RowKit.Hid (0 ≤ S3) := Lib.hid (by rw [HS3.out]; exact Int.mul_nonneg HA.out HC.out)
        have hP0 : RowKit.Hid (0 ≤ P) := Lib.hid (by rw [HPr.out]; exact Int.mul_nonneg HA.out HB.out)
        have hT := (hT.alloc _).later j3
        have hO := (hO.alloc _).later j3
        have bW := Blk.nw j3
        obtain ⟨kW, hkW⟩ : ∃ k, k = v2.heap.size := ⟨_, rfl⟩
        rw [← hkW] at bW ⊢
        clear j3 cA0 cA1 lA cC0 cC1 lC bC hkW
        obtain ⟨cX0, cX1, lX⟩ := hT.bX.two
        go_wp2_with fail
        refine (add_res (hiW (rv P)) (loW (rv P)) (hiW (rv S3)) (loW (rv S3)) (hi_rv hP0.out) (loW_wd _) (hi_rv hS30.out) (loW_wd _) (rv P + rv S3) (by rw [num_hl, num_hl]) _).mono ?_
        rintro e v4 ⟨rfl, j4⟩
        obtain ⟨S4, hS4⟩ : ∃ S, S = rv P + rv S3 := ⟨_, rfl⟩
        rw [← hS4]
        have HS4 := Lib.hid hS4; clear hS4
        have hT := (hT.alloc _).later j4
        have hO := (hO.alloc _).later j4
        have bW := bW.al j4
        clear j4 cX0 cX1 lX
        obtain ⟨cW0, cW1, lW⟩ := bW.two
        by_cases g1 : S1 < Big
        · have r1 : rv S1 = S1 := rv_yes g1
          by_cases g2 : S2 < Big
          · have e2 : num (a, b) * (num (c, d) + num (x, y)) = S2 := by rw [HS2.out, r1, HS1.out]
            obtain ⟨p1, p2, p3⟩ := parts_whole HA.out HB.out HC.out (by rw [e2]; exact g2)
            rw [← HPr.out] at p1 p3
            rw [← HS3.out] at p2 p3
            rw [e2] at p3
            have e4 : S4 = S2 := by rw [HS4.out, rv_yes p1, rv_yes p2, p3]
            rw [re_yes g1, re_yes g2, re_yes p2, e4, re_yes g2]
            have q5 := re_yes p1
            clear e2 p1 p2 p3 e4 g1 g2 r1
            have q6 : (re P != 0) = false := by rw [q5]; rfl
            clear q5
            go_wp2_with fail
            go_roundw
            case rel => exact ⟨k + 1, by omega, by go_num, hT.alloc _, hO.alloc _⟩
            case measure => simp [intOf]; omega
          · rw [re_yes g1, re_no g2]
            clear g1 g2 r1
            go_wp2_with fail
            go_roundw
            case rel => exact ⟨k + 1, by omega, by go_num, hT.alloc _, hO.alloc _⟩
            case measure => simp [intOf]; omega
        · rw [re_no g1]
          clear g1
          go_wp2_with fail
          go_roundw
          case rel => exact ⟨k + 1, by omega, by go_num, hT.alloc _, hO.alloc _⟩
          case measure => simp [intOf]; omega
      · obtain rfl : k = n := by omega
        go_wp2_with fail
        go_ret
        exact ⟨rfl, hT.low⟩
end Go.Proofs.Ytfknocgmobddmaa
