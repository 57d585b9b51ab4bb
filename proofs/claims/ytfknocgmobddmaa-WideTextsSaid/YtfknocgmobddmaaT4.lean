import Derived.Test.YtfknocgmobddmaaT3
namespace Go.Proofs.Ytfknocgmobddmaa
open Go.RowKit Go.Proofs.Kit

theorem wd0 : Wd 0 := by unfold Wd; decide
theorem total_blk (l : List (Int × Int)) (len cap : Nat) (w : World) (b : Nat) (vs : Array Value) (hb : Blk w b vs 26) (hl : l.length = len) (hlen : len ≤ 1000000) (hw : ∀ p ∈ l, Wp p)
    (hv : ∀ k (h : k < l.length), vs[k * 2]? = some (.int .u64 l[k].1) ∧ vs[k * 2 + 1]? = some (.int .u64 l[k].2)) :
    Calls Try.prog 46 #[.slice (some ⟨b, 0, none⟩) len cap] w fun e w' => Reck (sumN l < Big) (sumN l) e ∧ Below w.heap.size w w' :=
  total_any b 0 len cap l w hlen hl hb.lt hw (fun k h => ⟨by rw [hb.cell]; simpa using (hv k h).1, by rw [hb.cell]; simpa using (hv k h).2⟩)

theorem wp3 {p q r : Int × Int} (hp : Wp p) (hq : Wp q) (hr : Wp r) : ∀ x ∈ [p, q, r], Wp x := by
  intro x hx
  simp only [List.mem_cons, List.not_mem_nil, or_false] at hx
  rcases hx with rfl | rfl | rfl
  · exact hp
  · exact hq
  · exact hr
theorem cells3 (p q r : Int × Int) : ∀ k (h : k < [p, q, r].length), (#[Value.int .u64 p.1, .int .u64 p.2, .int .u64 q.1, .int .u64 q.2, .int .u64 r.1, .int .u64 r.2] : Array Value)[k * 2]? = some (.int .u64 [p, q, r][k].1) ∧ (#[Value.int .u64 p.1, .int .u64 p.2, .int .u64 q.1, .int .u64 q.2, .int .u64 r.1, .int .u64 r.2] : Array Value)[k * 2 + 1]? = some (.int .u64 [p, q, r][k].2)
  | 0, _ => ⟨rfl, rfl⟩
  | 1, _ => ⟨rfl, rfl⟩
  | 2, _ => ⟨rfl, rfl⟩
theorem wp2 {p q : Int × Int} (hp : Wp p) (hq : Wp q) : ∀ x ∈ [p, q], Wp x := by
  intro x hx
  simp only [List.mem_cons, List.not_mem_nil, or_false] at hx
  rcases hx with rfl | rfl
  · exact hp
  · exact hq
theorem cells2 (p q : Int × Int) : ∀ k (h : k < [p, q].length), (#[Value.int .u64 p.1, .int .u64 p.2, .int .u64 q.1, .int .u64 q.2] : Array Value)[k * 2]? = some (.int .u64 [p, q][k].1) ∧ (#[Value.int .u64 p.1, .int .u64 p.2, .int .u64 q.1, .int .u64 q.2] : Array Value)[k * 2 + 1]? = some (.int .u64 [p, q][k].2)
  | 0, _ => ⟨rfl, rfl⟩
  | 1, _ => ⟨rfl, rfl⟩

set_option maxHeartbeats 1000000 in
theorem product_third (a b c d : Int) (ha : Wd a) (hb : Wd b) (hc : Wd c) (hd : Wd d) (w : World) (h1 : (a != 0) = false ∨ ((a != 0) = true ∧ (c != 0) = false)) (hx : up (a * d) < Big) (hy : up (b * c) < Big) :
    Calls Try.prog 37 #[WV a b, WV c d] w fun e w' => Reck (num (a, b) * num (c, d) < Big) (num (a, b) * num (c, d)) e ∧ Below w.heap.size w w' := by
  have hpe := prod_split a b c d (by rcases h1 with h1 | ⟨_, h1⟩ <;> simp at h1 <;> simp [h1])
  have HP := Lib.hid hpe; clear hpe
  have W1 : Wd (a * d) := ⟨(mul_pos ha hd).1, up_big.1 hx⟩
  have W2 : Wd (b * c) := ⟨(mul_pos hb hc).1, up_big.1 hy⟩
  have W3 : Wd (hiW (b * d)) := hiW_wd (mul_pos hb hd).1 (by have := (mul_pos hb hd).2; unfold Big; omega)
  have HX := Lib.hid hx; clear hx
  have HY := Lib.hid hy; clear hy
  rcases h1 with h1 | ⟨h1, h2⟩
  all_goals
    go_enter Try.func37, Try.ntmps37
    go_wp2_with (go_at_call 55; refine (mul64_any b d hb hd _).mono ?_; rintro e w' ⟨rfl, rfl⟩)
    refine wp_region_held_drew (S := fun w' => w'.cell? ⟨w.heap.size, 0, none⟩ = some (.int .u64 a) ∧ w'.cell? ⟨w.heap.size, 1, none⟩ = some (.int .u64 b) ∧ w'.cell? ⟨w.heap.size + 1, 0, none⟩ = some (.int .u64 c) ∧ w'.cell? ⟨w.heap.size + 1, 1, none⟩ = some (.int .u64 d) ∧ PS w a b c d w') (by kernel_rfl) (PS.start w a b c d).drew.cells (fun hHeld => ?_)
    refine wpAnyH_take (i := 0) (v := ?_) rfl (by kernel_rfl) (by kernel_rfl) (by kernel_rfl) (fun _ _ _ h => h) (Or.inl ⟨by rfl, ?_⟩) hHeld ?_
    rotate_left
    · intro w1 hSw; (try dsimp only at hSw); go_simp; with_reducible rfl
    simp only [Act.put, List.getElem_toArray, List.getElem_cons_zero, List.setIfInBounds_toArray, List.set_cons_zero, List.set_cons_succ]
    refine wpAnyH_take (i := 1) (v := ?_) rfl (by kernel_rfl) (by kernel_rfl) (by kernel_rfl) (fun _ _ _ h => h) (Or.inl ⟨by rfl, ?_⟩) hHeld ?_
    rotate_left
    · intro w1 hSw; (try dsimp only at hSw); go_simp; with_reducible rfl
    simp only [Act.put, List.getElem_toArray, List.getElem_cons_zero, List.getElem_cons_succ, List.setIfInBounds_toArray, List.set_cons_zero, List.set_cons_succ]
    refine wpAnyH_take (i := 2) (v := ?_) rfl (by kernel_rfl) (by kernel_rfl) (by kernel_rfl) (fun _ _ _ h => h) (Or.inl ⟨by rfl, ?_⟩) hHeld ?_
    rotate_left
    · intro w1 hSw; (try dsimp only at hSw); go_simp; with_reducible rfl
    simp only [Act.put, List.getElem_toArray, List.getElem_cons_zero, List.getElem_cons_succ, List.setIfInBounds_toArray, List.set_cons_zero, List.set_cons_succ]
    refine wpAnyH_take (i := 3) (v := ?_) rfl (by kernel_rfl) (by kernel_rfl) (by kernel_rfl) (fun _ _ _ h => h) (Or.inl ⟨by rfl, ?_⟩) hHeld ?_
    rotate_left
    · intro w1 hSw; (try dsimp only at hSw); go_simp; with_reducible rfl
    simp only [Act.put, List.getElem_toArray, List.getElem_cons_zero, List.getElem_cons_succ, List.setIfInBounds_toArray, List.set_cons_zero, List.set_cons_succ]
    refine wpAnyH_take (i := 4) (v := ?_) rfl (by kernel_rfl) (by kernel_rfl) (by kernel_rfl) (fun _ _ _ h => h) (Or.inl ⟨by rfl, ?_⟩) hHeld ?_
    rotate_left
    · intro w1 hSw; (try dsimp only at hSw); go_simp; with_reducible rfl
    simp only [Act.put, List.getElem_toArray, List.getElem_cons_zero, List.getElem_cons_succ, List.setIfInBounds_toArray, List.set_cons_zero, List.set_cons_succ]
    refine wpAnyH_take (i := 5) (v := ?_) rfl (by kernel_rfl) (by kernel_rfl) (by kernel_rfl) (fun _ _ _ h => h) (Or.inl ⟨by rfl, ?_⟩) hHeld ?_
    rotate_left
    · intro w1 hSw; (try dsimp only at hSw); go_simp; with_reducible rfl
    simp only [Act.put, List.getElem_toArray, List.getElem_cons_zero, List.getElem_cons_succ, List.setIfInBounds_toArray, List.set_cons_zero, List.set_cons_succ]
    refine wpAnyH_take (i := 6) (v := ?_) rfl (by kernel_rfl) (by kernel_rfl) (by kernel_rfl) (fun _ _ _ h => h) (Or.inl ⟨by rfl, ?_⟩) hHeld ?_
    rotate_left
    · intro w1 hSw; (try dsimp only at hSw); go_simp; with_reducible rfl
    simp only [Act.put, List.getElem_toArray, List.getElem_cons_zero, List.getElem_cons_succ, List.setIfInBounds_toArray, List.set_cons_zero, List.set_cons_succ]
    refine wpAnyH_take (i := 8) (v := ?_) rfl (by kernel_rfl) (by kernel_rfl) (by kernel_rfl) (fun _ _ _ h => h) (Or.inl ⟨by rfl, ?_⟩) hHeld ?_
    rotate_left
    · intro w1 hSw; (try dsimp only at hSw); go_simp; with_reducible rfl
    simp only [Act.put, List.getElem_toArray, List.getElem_cons_zero, List.getElem_cons_succ, List.setIfInBounds_toArray, List.set_cons_zero, List.set_cons_succ]
    refine wpAnyH_take (i := 9) (v := ?_) rfl (by kernel_rfl) (by kernel_rfl) (by kernel_rfl) (fun _ _ _ h => h) (Or.inl ⟨by rfl, ?_⟩) hHeld ?_
    rotate_left
    · intro w1 hSw; (try dsimp only at hSw); go_simp; with_reducible rfl
    simp only [Act.put, List.getElem_toArray, List.getElem_cons_zero, List.getElem_cons_succ, List.setIfInBounds_toArray, List.set_cons_zero, List.set_cons_succ]
    refine wpAnyH_take (i := 10) (v := ?_) rfl (by kernel_rfl) (by kernel_rfl) (by kernel_rfl) (fun _ _ _ h => h) (Or.inl ⟨by rfl, ?_⟩) hHeld ?_
    rotate_left
    · intro w1 hSw; (try dsimp only at hSw); go_simp; with_reducible rfl
    simp only [Act.put, List.getElem_toArray, List.getElem_cons_zero, List.getElem_cons_succ, List.setIfInBounds_toArray, List.set_cons_zero, List.set_cons_succ]
    refine wpAnyH_take (i := 11) (v := ?_) rfl (by kernel_rfl) (by kernel_rfl) (by kernel_rfl) (fun _ _ _ h => h) (Or.inl ⟨by rfl, ?_⟩) hHeld ?_
    rotate_left
    · intro w1 hSw; (try dsimp only at hSw); go_simp; with_reducible rfl
    simp only [Act.put, List.getElem_toArray, List.getElem_cons_zero, List.getElem_cons_succ, List.setIfInBounds_toArray, List.set_cons_zero, List.set_cons_succ]
    refine wpAnyH_ready (rs := [7]) (by kernel_rfl) (by simp) ?_
    refine AllReadyH.cons rfl (fun K hK => ?_) AllReadyH.nil
    go_simp
    refine (raised_ok a d ha hd HX.out _).mono ?_
    rintro e w' ⟨rfl, hbl⟩
    obtain ⟨_, _, _, _, hps⟩ := hHeld
    refine hK.out _ _ (hps.later hbl).cells (fun hHeld => ?_)
    clear hK K
    refine wpAnyH_ready (rs := [12]) (by kernel_rfl) (by simp) ?_
    refine AllReadyH.cons rfl (fun K hK => ?_) AllReadyH.nil
    go_simp
    refine (raised_ok b c hb hc HY.out _).mono ?_
    rintro e w2 ⟨rfl, hbl2⟩
    have hps2 := (hps.later hbl).later hbl2
    refine hK.out _ _ hps2.cells (fun hHeld => ?_)
    clear hK K
    refine wpAnyH_ready (rs := [13]) (by kernel_rfl) (by simp) ?_
    refine AllReadyH.cons rfl (fun K hK => ?_) AllReadyH.nil
    go_simp
    refine hK.out _ _ (hps2.alloc _).cells (fun hHeld => ?_)
    clear hK K
    refine wpAnyH_ready (rs := [14]) (by kernel_rfl) (by simp) ?_
    refine AllReadyH.cons rfl (fun K hK => ?_) AllReadyH.nil
    go_simp
    have hnew := Blk.new w2 #[.int .u64 (hiW (b * d)), .int .u64 (loW (b * d)), .int .u64 (a * d), .int .u64 0, .int .u64 (b * c), .int .u64 0] 26
    have hsum : sumN [(hiW (b * d), loW (b * d)), (a * d, 0), (b * c, 0)] = num (a, b) * num (c, d) := by
      rw [HP.out]; simp only [sumN, num_hl]; unfold num up; simp only; omega
    have htot := total_blk [(hiW (b * d), loW (b * d)), (a * d, 0), (b * c, 0)] 3 3 _ _ _ hnew rfl (by decide) (wp3 ⟨W3, loW_wd _⟩ ⟨W1, wd0⟩ ⟨W2, wd0⟩) (cells3 _ _ _)
    rw [hsum] at htot
    have HT := Lib.hid htot; clear htot hsum
    refine HT.out.mono ?_
    rintro e w3 ⟨hr, hbl3⟩
    have hps3 := (hps2.alloc _).later hbl3
    by_cases hlt : num (a, b) * num (c, d) < Big
    · obtain rfl := hr.1 hlt
      refine hK.out _ _ hps3.cells (fun hHeld => ?_)
      clear hK K
      obtain ⟨x0, y0, hb3⟩ := hps3.2.2.1
      have r0 := hb3.cell 0
      have r1 := hb3.cell 1
      have f0 := hb3.frozen 0
      have f1 := hb3.frozen 1
      simp only [List.getElem?_toArray, List.getElem?_cons_zero, List.getElem?_cons_succ] at r0 r1
      refine wpAnyH_ready (rs := [15]) (by kernel_rfl) (by simp) ?_
      refine AllReadyH.cons rfl (fun K hK => ?_) AllReadyH.nil
      go_simp
      refine hK.out _ _ (hps3.set _ _).cells (fun hHeld => ?_)
      clear hK K
      refine wpAnyH_done (by kernel_rfl) ?_ _
      go_wp2
      have B3 := (hb3.set 0 (.int .u64 (hiW (num (a, b) * num (c, d))))).set 1 (.int .u64 (loW (num (a, b) * num (c, d))))
      have C0 := B3.cell 0
      have C1 := B3.cell 1
      simp at C0 C1
      exact bodyPost_ret (v := WV (hiW (num (a, b) * num (c, d))) (loW (num (a, b) * num (c, d)))) (by simp [results, Try.results37, go_sem, C0, C1]) rfl ⟨Reck.ok hlt, (hps3.set _ _).2.2.2⟩
    · obtain rfl := hr.2 hlt
      exact bodyPost_panic rfl ⟨Reck.no hlt, hps3.2.2.2⟩


/-- The product of two numbers. -/
theorem product_any (a b c d : Int) (ha : Wd a) (hb : Wd b) (hc : Wd c) (hd : Wd d) (w : World) :
    Calls Try.prog 37 #[WV a b, WV c d] w fun e w' => Reck (num (a, b) * num (c, d) < Big) (num (a, b) * num (c, d)) e ∧ Below w.heap.size w w' := by
  by_cases h1 : a = 0
  · have h1' : (a != 0) = false := by simp [h1]
    by_cases hx : up (a * d) < Big
    · by_cases hy : up (b * c) < Big
      · exact product_third a b c d ha hb hc hd w (.inl h1') hx hy
      · exact product_second a b c d ha hb hc hd w (.inl h1') hx hy
    · exact product_first a b c d ha hb hc hd w (.inl h1') hx
  · by_cases h2 : c = 0
    · have h1' : (a != 0) = true ∧ (c != 0) = false := by simp [h1, h2]
      by_cases hx : up (a * d) < Big
      · by_cases hy : up (b * c) < Big
        · exact product_third a b c d ha hb hc hd w (.inr h1') hx hy
        · exact product_second a b c d ha hb hc hd w (.inr h1') hx hy
      · exact product_first a b c d ha hb hc hd w (.inr h1') hx
    · exact product_great a b c d ha hb hc hd w h1 h2
end Go.Proofs.Ytfknocgmobddmaa
