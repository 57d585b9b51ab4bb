/- trie.down whole; Check, Run, Keys, Has, Size, Of. -/
import Derived.Test.YtjfnhjmdgfkgnaaU12
import Derived.Test.YtjfnhjmdgfkgnaaU14
namespace Go.Proofs.Kit
open Go.RowKit
/-- The row under a path of what may be. -/
def rowOf (bs : List Br) (lv P : List Int) : Option (List Int) := if ok7 bs lv then pathRow bs lv P else none
theorem pathRow_long {bs : List Br} {lv P : List Int} (h : 2 < P.length) : pathRow bs lv P = none := by
  match P, h with
  | _ :: _ :: _ :: _, _ => rfl
end Go.Proofs.Kit
namespace Go.Proofs.Ytjfnhjmdgfkgnaa
open Go.RowKit Go.Proofs.Kit
/-- How down ends. -/
def DownQ (R : Option (List Int)) (w : World) (e : Ending) (w' : World) : Prop :=
  ∃ ob' m' cb' ol' q' cl' o' n' c', e = .returned (.tuple #[LV ob' m' cb' ol' q' cl' o' n' c', .bool R.isSome]) ∧ (∀ r, R = some r → r.length = n' ∧ Seg .u64 w' (.slice o' n' c') r) ∧ Below w.heap.size w w'
set_option maxRecDepth 100000 in
set_option maxHeartbeats 4000000 in
theorem down_bad (ob : Option Addr) (m cb : Nat) (ol : Option Addr) (q cl : Nat) (op : Option Addr) (np cp : Nat) (w : World) (h2 : 2 < np) (h3 : np ≤ 1000000000) :
    Calls Try.prog 55 #[.agg #[.slice ob m cb, .slice ol q cl], .slice op np cp] w fun e w' => e = .returned (.tuple #[LV none 0 0 none 0 0 none 0 0, .bool false]) ∧ Below w.heap.size w w' := by
  have hg1 : decide (2 < np) = true := by simpa using h2
  have hg2 : decide ((2 : Int) < (np : Int)) = true := by simp; omega
  go_enter Try.func55, Try.ntmps55
  go_wp2_with fail
  all_goals
    refine bodyPost_ret (v := .tuple #[LV none 0 0 none 0 0 none 0 0, .bool false]) (by simp [results, Try.results55, go_sem]) rfl ⟨rfl, ?_⟩
    have h0 := (((Gr.alloc w (.cells #[.slice ob m cb, .slice ol q cl] 25)).trans (Gr.alloc _ (.cells #[.slice none 0 0, .slice none 0 0, .slice none 0 0] 92))).trans (Gr.alloc _ (.cells #[FB, FL] 124))).below
    first | exact h0 | exact ((h0.setCell (by simp) _).setCell (by simp) _).setCell (by simp) _
set_option maxRecDepth 100000 in
set_option maxHeartbeats 4000000 in
theorem down_no (ob : Option Addr) (m cb : Nat) (ol : Option Addr) (q cl : Nat) (bs : List Br) (lv : List Int) (op : Option Addr) (np cp : Nat) (w : World) (hb : SegR w (.slice ob m cb) bs) (hl : Seg .u64 w (.slice ol q cl) lv) (hok : ¬ ok7 bs lv)
    (hm : bs.length = m) (hq : lv.length = q) (hml : m ≤ 100000) (hql : q ≤ 100000) (h2 : np ≤ 2) :
    Calls Try.prog 55 #[.agg #[.slice ob m cb, .slice ol q cl], .slice op np cp] w fun e w' => e = .returned (.tuple #[LV none 0 0 none 0 0 none 0 0, .bool false]) ∧ Below w.heap.size w w' := by
  have hg1 : decide (2 < np) = false := by simp; omega
  have hg2 : decide ((2 : Int) < (np : Int)) = false := by simp; omega
  have HMB := Lib.hid (fun W (g : Below w.heap.size w W) => mayBe_any (.slice ob m cb) (.slice ol q cl) bs lv W (hb.later g) (hl.later g) (by omega) (by omega))
  rw [decide_eq_false hok] at HMB
  clear hb hl hok hm hq
  go_enter Try.func55, Try.ntmps55
  go_wp2_with fail
  obtain ⟨W0, hW0⟩ : ∃ W0, W0 = ((w.alloc (.cells #[.slice ob m cb, .slice ol q cl] 25)).alloc (.cells #[.slice none 0 0, .slice none 0 0, .slice none 0 0] 92)).alloc (.cells #[FB, FL] 124) := ⟨_, rfl⟩
  have G0 : Gr w W0 := by rw [hW0]; exact ((Gr.alloc _ _).trans (Gr.alloc _ _)).trans (Gr.alloc _ _)
  have b1 : Blk W0 (w.heap.size + 1) #[.slice none 0 0, .slice none 0 0, .slice none 0 0] 92 := by rw [hW0]; have := (Blk.new (w.alloc (.cells #[.slice ob m cb, .slice ol q cl] 25)) #[.slice none 0 0, .slice none 0 0, .slice none 0 0] 92).alloc (.cells #[FB, FL] 124); simpa using this
  rw [← hW0]
  clear hW0
  refine (HMB.out W0 G0.below).mono ?_
  rintro e w1 ⟨rfl, l1⟩
  have k1 := b1.later l1
  have L1 := Lib.hid (below_later G0.below l1)
  obtain ⟨d0, d1, d2, dl⟩ := k1.c3
  obtain ⟨v0, v1, v2⟩ := k1.z3
  obtain ⟨r0, r1, r2, _⟩ := (k1.set3 (.slice none 0 0) (.slice none 0 0) (.slice none 0 0)).c3
  have HR := Lib.hid (And.intro r0 (And.intro r1 r2))
  clear b1 k1 G0 l1 HMB r0 r1 r2
  go_wp2
  obtain ⟨r0, r1, r2⟩ := HR.out
  exact bodyPost_ret (v := .tuple #[LV none 0 0 none 0 0 none 0 0, .bool false]) (by simp [results, Try.results55, go_sem, r0, r1, r2]) rfl ⟨rfl, ((L1.out.setCell (by simp) _).setCell (by simp) _).setCell (by simp) _⟩
theorem down_any (ob : Option Addr) (m cb : Nat) (ol : Option Addr) (q cl : Nat) (bs : List Br) (lv : List Int) (op : Option Addr) (np cp : Nat) (P : List Int) (w : World) (hb : SegR w (.slice ob m cb) bs) (hl : Seg .u64 w (.slice ol q cl) lv)
    (hm : bs.length = m) (hq : lv.length = q) (hml : m ≤ 100000) (hql : q ≤ 100000) (hp : PathAt w op P) (hnp : P.length = np) (hn3 : np ≤ 1000000000) :
    Calls Try.prog 55 #[.agg #[.slice ob m cb, .slice ol q cl], .slice op np cp] w (DownQ (rowOf bs lv P) w) := by
  by_cases h2 : np ≤ 2
  · by_cases hok : ok7 bs lv
    · refine (down_ok ob m cb ol q cl bs lv op np cp P w hb hl hok hm hq hml hql hp hnp h2).mono ?_
      rintro e w' ⟨ob', m', cb', ol', q', cl', o', n', c', good, rfl, hst, hlow⟩
      have er : rowOf bs lv P = pathRow bs lv P := if_pos hok
      cases good
      · have hn : pathRow bs lv P = none := hst
        exact ⟨ob', m', cb', ol', q', cl', o', n', c', by rw [er, hn]; rfl, (fun r h => by rw [er, hn] at h; cases h), hlow⟩
      · rw [StepR, if_pos rfl] at hst
        obtain ⟨_, r, hr, hn, hs⟩ := hst
        refine ⟨ob', m', cb', ol', q', cl', o', n', c', by rw [er, hr]; rfl, (fun r' h => ?_), hlow⟩
        rw [er, hr] at h
        injection h with h
        subst h
        exact ⟨hn, hs⟩
    · refine (down_no ob m cb ol q cl bs lv op np cp w hb hl hok hm hq hml hql h2).mono ?_
      rintro e w' ⟨rfl, hlow⟩
      have er : rowOf bs lv P = none := if_neg hok
      exact ⟨none, 0, 0, none, 0, 0, none, 0, 0, by rw [er]; rfl, (fun r h => by rw [er] at h; cases h), hlow⟩
  · refine (down_bad ob m cb ol q cl op np cp w (by omega) hn3).mono ?_
    rintro e w' ⟨rfl, hlow⟩
    have er : rowOf bs lv P = none := by
      unfold rowOf
      split
      · exact pathRow_long (by omega)
      · rfl
    exact ⟨none, 0, 0, none, 0, 0, none, 0, 0, by rw [er]; rfl, (fun r h => by rw [er] at h; cases h), hlow⟩

/-! ### The faces -/
theorem rowOf_len {bs : List Br} {lv P r : List Int} (h : rowOf bs lv P = some r) : r.length ≤ lv.length := by
  unfold rowOf at h
  split at h
  · exact pathRow_len (by assumption) h
  · cases h
set_option maxRecDepth 100000 in
set_option maxHeartbeats 2000000 in
theorem ycheck_any (ob : Option Addr) (m cb : Nat) (ol : Option Addr) (q cl : Nat) (bs : List Br) (lv : List Int) (w : World) (hb : SegR w (.slice ob m cb) bs) (hl : Seg .u64 w (.slice ol q cl) lv) (hm : bs.length = m) (hq : lv.length = q) (hml : m ≤ 100000) (hql : q ≤ 100000) :
    Calls Try.prog 47 #[.agg #[.slice ob m cb, .slice ol q cl]] w fun e w' => e = .returned (.int .i64 (if ok7 bs lv then 0 else 170)) ∧ Below w.heap.size w w' := by
  have HMB := Lib.hid (fun W (g : Below w.heap.size w W) => mayBe_any (.slice ob m cb) (.slice ol q cl) bs lv W (hb.later g) (hl.later g) (by omega) (by omega))
  clear hb hl hm hq
  by_cases hok : ok7 bs lv
  all_goals
    first | rw [decide_eq_true hok] at HMB | rw [decide_eq_false hok] at HMB
    first | rw [if_pos hok] | rw [if_neg hok]
    clear hok
    go_enter Try.func47, Try.ntmps47
    go_wp2_with fail
    refine (HMB.out _ (Gr.alloc _ _).below).mono ?_
    rintro e w1 ⟨rfl, l1⟩
    go_wp2
    go_ret
    exact ⟨rfl, below_later (Gr.alloc _ _).below l1⟩
def runOf (bs : List Br) (lv : List Int) : List Pr := if ok7 bs lv then prs bs lv else []
set_option maxRecDepth 100000 in
set_option maxHeartbeats 2000000 in
theorem yrun_any (ob : Option Addr) (m cb : Nat) (ol : Option Addr) (q cl : Nat) (bs : List Br) (lv : List Int) (w : World) (hb : SegR w (.slice ob m cb) bs) (hl : Seg .u64 w (.slice ol q cl) lv) (hm : bs.length = m) (hq : lv.length = q) (hml : m ≤ 10000) (hql : q ≤ 10000) :
    Calls Try.prog 49 #[.agg #[.slice ob m cb, .slice ol q cl]] w fun e w' => ∃ v', e = .returned v' ∧ OwnP 83 w.heap.size w' v' (runOf bs lv) ∧ Below w.heap.size w w' := by
  have HMB := Lib.hid (fun W (g : Below w.heap.size w W) => mayBe_any (.slice ob m cb) (.slice ol q cl) bs lv W (hb.later g) (hl.later g) (by omega) (by omega))
  have HPA := Lib.hid (fun W (g : Below w.heap.size w W) (h : Chd lv.length bs) => pairs_any (.slice ob m cb) (.slice ol q cl) bs lv W (hb.later g) (hl.later g) (by omega) (by omega) h)
  clear hb hl hm hq
  unfold runOf
  by_cases hok : ok7 bs lv
  · rw [decide_eq_true hok] at HMB
    rw [if_pos hok]
    have HP2 := Lib.hid (fun W (g : Below w.heap.size w W) => HPA.out W g hok.2.1)
    clear hok HPA
    go_enter Try.func49, Try.ntmps49
    go_wp2_with fail
    refine (HMB.out _ (Gr.alloc _ _).below).mono ?_
    rintro e w1 ⟨rfl, l1⟩
    have b0 := (Blk.new w #[.slice ob m cb, .slice ol q cl] 25).later l1
    have lo1 := Lib.hid (below_later (Gr.alloc w (.cells #[.slice ob m cb, .slice ol q cl] 25)).below l1)
    obtain ⟨c1, c2, l0⟩ := b0.two
    clear b0 l1
    go_wp2_with fail
    refine (HP2.out _ lo1.out).mono ?_
    rintro e w2 ⟨v', rfl, ho, l2⟩
    go_wp2
    go_ret
    exact ⟨v', rfl, ho.mono lo1.out.size, below_later lo1.out l2⟩
  · rw [decide_eq_false hok] at HMB
    rw [if_neg hok]
    clear hok HPA
    go_enter Try.func49, Try.ntmps49
    go_wp2_with fail
    refine (HMB.out _ (Gr.alloc _ _).below).mono ?_
    rintro e w1 ⟨rfl, l1⟩
    go_wp2
    go_ret
    exact ⟨_, rfl, OwnP.nil _ _ _, below_later (Gr.alloc _ _).below l1⟩
def sizeOf7 (bs : List Br) (lv : List Int) : Nat × Nat := if ok7 bs lv then (bs.length, lv.length) else (0, 0)
set_option maxRecDepth 100000 in
set_option maxHeartbeats 2000000 in
theorem ysize_any (ob : Option Addr) (m cb : Nat) (ol : Option Addr) (q cl : Nat) (bs : List Br) (lv : List Int) (w : World) (hb : SegR w (.slice ob m cb) bs) (hl : Seg .u64 w (.slice ol q cl) lv) (hm : bs.length = m) (hq : lv.length = q) (hml : m ≤ 10000) (hql : q ≤ 10000) :
    Calls Try.prog 19 #[.agg #[.slice ob m cb, .slice ol q cl]] w fun e w' => e = .returned (.tuple #[.int .i64 ((sizeOf7 bs lv).1 : Int), .int .i64 ((sizeOf7 bs lv).2 : Int)]) ∧ Below w.heap.size w w' := by
  have HMB := Lib.hid (fun W (g : Below w.heap.size w W) => mayBe_any (.slice ob m cb) (.slice ol q cl) bs lv W (hb.later g) (hl.later g) (by omega) (by omega))
  have hmix := mixed
  unfold sizeOf7
  by_cases hok : ok7 bs lv
  · rw [decide_eq_true hok] at HMB
    rw [if_pos hok, hm, hq]
    clear hok hb hl hm hq
    go_enter Try.func19, Try.ntmps19
    go_wp2_with fail
    refine (HMB.out _ (Gr.alloc _ _).below).mono ?_
    rintro e w1 ⟨rfl, l1⟩
    have b0 := (Blk.new w #[.slice ob m cb, .slice ol q cl] 25).later l1
    have lo1 := Lib.hid (below_later (Gr.alloc w (.cells #[.slice ob m cb, .slice ol q cl] 25)).below l1)
    obtain ⟨c1, c2, l0⟩ := b0.two
    clear b0 l1
    go_wp2
    go_quiet (fail)
    go_wp2
    go_ret2
    exact ⟨rfl, lo1.out.trans (below_drN (Below.refl _ _) _)⟩
  · rw [decide_eq_false hok] at HMB
    rw [if_neg hok]
    clear hok hb hl hm hq
    go_enter Try.func19, Try.ntmps19
    go_wp2_with fail
    refine (HMB.out _ (Gr.alloc _ _).below).mono ?_
    rintro e w1 ⟨rfl, l1⟩
    go_wp2
    go_ret2
    exact ⟨rfl, below_later (Gr.alloc _ _).below l1⟩
set_option maxRecDepth 100000 in
set_option maxHeartbeats 2000000 in
theorem ykeys_any (ob : Option Addr) (m cb : Nat) (ol : Option Addr) (q cl : Nat) (bs : List Br) (lv : List Int) (op : Option Addr) (np cp : Nat) (P : List Int) (w : World) (hb : SegR w (.slice ob m cb) bs) (hl : Seg .u64 w (.slice ol q cl) lv)
    (hm : bs.length = m) (hq : lv.length = q) (hml : m ≤ 100000) (hql : q ≤ 100000) (hp : PathAt w op P) (hnp : P.length = np) (hn3 : np ≤ 1000000000) :
    Calls Try.prog 14 #[.agg #[.slice ob m cb, .slice ol q cl], .slice op np cp] w fun e w' => ∃ v', e = .returned v' ∧ Owns .u64 32 w.heap.size w' v' ((rowOf bs lv P).getD []) ∧ Below w.heap.size w w' := by
  have HD := Lib.hid (fun W (g : Below w.heap.size w W) => down_any ob m cb ol q cl bs lv op np cp P W (hb.later g) (hl.later g) hm hq hml hql (hp.later g) hnp hn3)
  have HQL := Lib.hid (fun r (h : rowOf bs lv P = some r) => (show r.length ≤ 100000 by have := rowOf_len h; omega))
  clear hb hl hp hm hq hnp
  obtain ⟨R, hR⟩ : ∃ R, R = rowOf bs lv P := ⟨_, rfl⟩
  rw [← hR] at HD HQL ⊢
  clear hR
  go_enter Try.func14, Try.ntmps14
  go_wp2_with fail
  refine (HD.out _ (Gr.alloc _ _).below).mono ?_
  rintro e w1 ⟨ob', m', cb', ol', q', cl', o', n', c', rfl, hrow, l1⟩
  have lo1 := Lib.hid (below_later (Gr.alloc w (.cells #[.slice ob m cb, .slice ol q cl] 25)).below l1)
  clear l1 HD
  rcases R with _ | r
  · clear hrow HQL
    simp only [Option.isSome_none]
    go_wp2
    go_ret
    exact ⟨_, rfl, Owns.nil _ _ _ _, lo1.out.trans ((Gr.alloc _ _).below.mono lo1.out.size)⟩
  · obtain ⟨hn, hs⟩ := hrow r rfl
    have hr1 := HQL.out r rfl
    have HS := Lib.hid (hs.alloc (.cells #[.slice ob' m' cb', .slice ol' q' cl', .slice o' n' c'] 92))
    have HN := Lib.hid hn
    clear hrow hn hs HQL
    simp only [Option.isSome_some]
    go_wp2_with fail
    refine (cloneu_any o' n' c' r _ HN.out (by have := HN.out; omega) (ArgI.of_seg HS.out).1).mono ?_
    rintro e w2 ⟨v', rfl, ho, l2⟩
    have lo2 := lo1.out.trans ((Gr.alloc w1 (.cells #[.slice ob' m' cb', .slice ol' q' cl', .slice o' n' c'] 92)).below.mono lo1.out.size)
    go_wp2
    go_ret
    exact ⟨v', rfl, ho.mono lo2.size, below_later lo2 l2⟩
set_option maxRecDepth 100000 in
set_option maxHeartbeats 2000000 in
theorem yhas_any (ob : Option Addr) (m cb : Nat) (ol : Option Addr) (q cl : Nat) (bs : List Br) (lv : List Int) (op : Option Addr) (np cp : Nat) (P : List Int) (w : World) (hb : SegR w (.slice ob m cb) bs) (hl : Seg .u64 w (.slice ol q cl) lv)
    (hm : bs.length = m) (hq : lv.length = q) (hml : m ≤ 100000) (hql : q ≤ 100000) (hp : PathAt w op P) (hnp : P.length = np) (hn3 : np ≤ 1000000000) :
    Calls Try.prog 17 #[.agg #[.slice ob m cb, .slice ol q cl], .slice op np cp] w fun e w' => e = .returned (.bool ((rowOf bs lv P).isSome && decide (0 < m))) ∧ Below w.heap.size w w' := by
  have HD := Lib.hid (fun W (g : Below w.heap.size w W) => down_any ob m cb ol q cl bs lv op np cp P W (hb.later g) (hl.later g) hm hq hml hql (hp.later g) hnp hn3)
  clear hb hl hp hm hq hnp
  obtain ⟨R, hR⟩ : ∃ R, R = rowOf bs lv P := ⟨_, rfl⟩
  rw [← hR] at HD ⊢
  clear hR
  go_enter Try.func17, Try.ntmps17
  go_wp2_with fail
  refine (HD.out _ (Gr.alloc _ _).below).mono ?_
  rintro e w1 ⟨ob', m', cb', ol', q', cl', o', n', c', rfl, hrow, l1⟩
  have b0 := (Blk.new w #[.slice ob m cb, .slice ol q cl] 25).later l1
  have lo1 := Lib.hid (below_later (Gr.alloc w (.cells #[.slice ob m cb, .slice ol q cl] 25)).below l1)
  obtain ⟨c1, c2, l0⟩ := b0.two
  clear l1 HD hrow b0
  rcases R with _ | r
  all_goals simp only [Option.isSome_none, Option.isSome_some]
  all_goals
    go_wp2
    go_ret
    exact ⟨by simp, lo1.out.trans ((Gr.alloc _ _).below.mono lo1.out.size)⟩
/-- What Of answers. -/
def ofE (l : List Pr) : Int := if okP l then 0 else 130
def ofB (l : List Pr) : List Br := if okP l then bof l else []
def ofL (l : List Pr) : List Int := if okP l then l.map (·.2) else []
set_option maxRecDepth 100000 in
set_option maxHeartbeats 4000000 in
theorem yof_any (v : Value) (l : List Pr) (w : World) (hs : SegP w v l) (hn : l.length ≤ 100000) :
    Calls Try.prog 27 #[v] w fun e w' => ∃ ob m cb ol q cl, e = .returned (.tuple #[.agg #[.slice ob m cb, .slice ol q cl], .int .i64 (ofE l)]) ∧ OwnR 68 w.heap.size w' (.slice ob m cb) (ofB l) ∧ Owns .u64 32 w.heap.size w' (.slice ol q cl) (ofL l) ∧ Below w.heap.size w w' := by
  obtain ⟨o, c, rfl, _, _, _⟩ := hs.shape
  obtain ⟨n, hnl⟩ : ∃ n, n = l.length := ⟨_, rfl⟩
  rw [← hnl] at hs ⊢
  have HS := Lib.hid hs
  have HN := Lib.hid hnl
  clear hs hnl
  unfold ofE ofB ofL
  by_cases hok : okP l
  · have HC := Lib.hid (ckP_yes hok)
    have HR := Lib.hid hok.1
    simp only [if_pos hok]
    clear hok
    go_enter Try.func27, Try.ntmps27
    go_wp2_with fail
    refine (check_any _ l _ (HS.out.alloc _)).mono ?_
    rw [HC.out]
    rintro e w1 ⟨rfl, g1⟩
    have F0 := Lib.hid ((Blk.new w #[.slice none 0 0, .slice none 0 0] 25).later g1.below)
    have G1 := (Gr.alloc w (.cells #[.slice none 0 0, .slice none 0 0] 25)).trans g1
    clear g1
    go_wp2_with fail
    refine (laid_any _ l _ (HS.out.later G1.below) HR.out (by omega)).mono ?_
    rintro e w2 ⟨vb, vl, rfl, hB, hL, l2⟩
    obtain ⟨ob, cb, rfl⟩ := hB.shape
    obtain ⟨ol, cl, rfl⟩ := hL.shape
    obtain ⟨m, hm⟩ : ∃ m, m = (bof l).length := ⟨_, rfl⟩
    obtain ⟨q, hq⟩ : ∃ q, q = (l.map (·.2)).length := ⟨_, rfl⟩
    rw [← hm] at hB ⊢
    rw [← hq] at hL ⊢
    have k0 := F0.out.later l2
    obtain ⟨d0, d1, dl⟩ := k0.two
    obtain ⟨z0, z1⟩ := k0.z2
    obtain ⟨r0, r1, _⟩ := (k0.set2 (.slice ob m cb) (.slice ol q cl)).two
    have HRR := Lib.hid (And.intro r0 r1)
    have HB := Lib.hid (((hB.mono (B' := w.heap.size) G1.below.size).oth (hB.ne_blk k0 (by decide)) 0 (.slice ob m cb)).oth (hB.ne_blk k0 (by decide)) 1 (.slice ol q cl))
    have HL := Lib.hid (((hL.mono (B' := w.heap.size) G1.below.size).oth (hL.ne_blk k0 (by decide)) 0 (.slice ob m cb)).oth (hL.ne_blk k0 (by decide)) 1 (.slice ol q cl))
    have HLO := Lib.hid (((below_later G1.below l2).setCell (p := ⟨w.heap.size, 0, none⟩) (Nat.le_refl _) (.slice ob m cb)).setCell (p := ⟨w.heap.size, 1, none⟩) (Nat.le_refl _) (.slice ol q cl))
    clear hm hq hB hL k0 r0 r1 l2 G1 F0
    go_wp2
    obtain ⟨r0, r1⟩ := HRR.out
    exact bodyPost_ret (v := .tuple #[.agg #[.slice ob m cb, .slice ol q cl], .int .i64 0]) (by simp [results, Try.results27, go_sem, r0, r1]) rfl ⟨ob, m, cb, ol, q, cl, rfl, HB.out, HL.out, HLO.out⟩
  · have HC := Lib.hid (ckP_no hok)
    simp only [if_neg hok]
    clear hok
    go_enter Try.func27, Try.ntmps27
    go_wp2_with fail
    refine (check_any _ l _ (HS.out.alloc _)).mono ?_
    rw [HC.out]
    rintro e w1 ⟨rfl, g1⟩
    have k0 := (Blk.new w #[.slice none 0 0, .slice none 0 0] 25).later g1.below
    have G1 := (Gr.alloc w (.cells #[.slice none 0 0, .slice none 0 0] 25)).trans g1
    obtain ⟨d0, d1, dl⟩ := k0.two
    obtain ⟨z0, z1⟩ := k0.z2
    obtain ⟨r0, r1, _⟩ := (k0.set2 (.slice none 0 0) (.slice none 0 0)).two
    have HRR := Lib.hid (And.intro r0 r1)
    clear g1 k0 r0 r1
    go_wp2
    obtain ⟨r0, r1⟩ := HRR.out
    exact bodyPost_ret (v := .tuple #[.agg #[.slice none 0 0, .slice none 0 0], .int .i64 130]) (by simp [results, Try.results27, go_sem, r0, r1]) rfl ⟨_, _, _, _, _, _, rfl, OwnR.nil _ _ _, Owns.nil _ _ _ _, (G1.below.setCell (by simp) _).setCell (by simp) _⟩
end Go.Proofs.Ytjfnhjmdgfkgnaa

