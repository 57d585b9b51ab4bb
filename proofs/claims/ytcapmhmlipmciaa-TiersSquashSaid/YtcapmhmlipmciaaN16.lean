/- slices.Reverse of pairs; RunTurns: the law's walk. -/
import Derived.Test.YtcapmhmlipmciaaN15
import Derived.Shelf.SlicesQ.Reverse
namespace Go.Proofs
open Go.Shelf
end Go.Proofs
namespace Go.Proofs.Ytcapmhmlipmciaa
open Go.RowKit Go.Proofs.Kit Go.Shelf Go.Lib
theorem own_sorted (B g cap : Nat) (cur : Array Value) (l : List Pr) (w : World) (hB : B ≤ g) (hb : Blk w g cur 36) (h1 : l.length ≤ cap) (h2 : cap ≤ 9223372036854775807) (h3 : cur.size = cap * 2) (h4 : cur.toList.take (l.length * 2) = flat l) (hl62 : l.length ≤ 4611686018427387903)
    (d' : Array Pr) (hs : d'.size = l.length) (n : Nat) (os : Array Obj) : OwnP 36 B (sortWorldK encP 2 w g 0 n d' os) (.slice (some ⟨g, 0, none⟩) l.length cap) d'.toList ∧ Below B w (sortWorldK encP 2 w g 0 n d' os) := by
  have hH := holds_blk hb h3 h1 h4
  have hH' := holds_sorted w g n d' _ os hb.lt hH (by simpa using hs)
  obtain ⟨cur', hcs, hb'⟩ := blk_sorted w g n d' os hb
  have hlen : d'.toList.length = l.length := by simpa using hs
  refine ⟨?_, below_sorted w B g n d' os hB hb.lt⟩
  have := OwnP.of_blk (t := 36) (l := d'.toList) (cap := cap) hB hb' (by omega) h2 (by omega) (by omega) (by
    apply List.ext_getElem?
    intro j
    by_cases hj : j < d'.toList.length * 2
    · rw [List.getElem?_take_of_lt hj]
      have hk : j / 2 < d'.size := by simp at hj; omega
      have e0 := (hH'.cell (i := j / 2) (c := 0) hk (by decide)).1
      have e1 := (hH'.cell (i := j / 2) (c := 1) hk (by decide)).1
      rw [hb'.cell, getElem!_pos d' _ hk] at e0 e1
      have hf := flat_get d'.toList (j / 2) (by simpa using hk)
      rcases Nat.mod_two_eq_zero_or_one j with h' | h'
      · have e : j = j / 2 * 2 := by omega
        rw [e, hf.1]
        simpa [encP] using e0
      · have e : j = j / 2 * 2 + 1 := by omega
        rw [e, hf.2]
        simpa [encP] using e1
    · rw [List.getElem?_eq_none (by simp; omega), List.getElem?_eq_none (by rw [flat_length]; omega)])
  rw [hlen] at this
  exact this
theorem ofP_reverse (l : List Pr) : ofP l.reverse = ofP l := (ofP_of (ofP_run _) fun q => by rw [ofP_mem]; simp)
theorem turn_facts {a : List Pr} (hr : Run a) (hs : a.length ≤ 1000) : ckP a = 0 ∧ Run (turnP a) ∧ (turnP a).length = a.length ∧ turnP (turnP a) = a ∧ ckP (turnP a) = 0 ∧ ∀ p ∈ a, hasP (turnP a) (p.2, p.1) = true := by
  have hok : okP a := ⟨hr, by omega⟩
  have et : turnP a = ofP (a.map swapP) := if_pos hok
  have hnd : (a.map swapP).Nodup := List.pairwise_map.2 (hr.nodup.imp fun {a b} (hab : a ≠ b) e => hab (swapP_inj e))
  have hlen : (turnP a).length = a.length := by
    have hp : (ofP (a.map swapP)).Perm (a.map swapP) := (List.perm_ext_iff_of_nodup (ofP_run _).nodup hnd).2 (ofP_mem _)
    rw [et, hp.length_eq, List.length_map]
  have hrt : Run (turnP a) := by rw [et]; exact ofP_run _
  have hokt : okP (turnP a) := ⟨hrt, by omega⟩
  have ett : turnP (turnP a) = ofP ((turnP a).map swapP) := if_pos hokt
  refine ⟨ckP_yes hok, hrt, hlen, ?_, ckP_yes hokt, fun p hp => ?_⟩
  · rw [ett]
    refine (ofP_of hr fun q => ?_).symm
    rw [List.mem_map]
    constructor
    · intro h
      exact ⟨swapP q, by rw [et, ofP_mem]; exact List.mem_map_of_mem h, rfl⟩
    · rintro ⟨r, hr', rfl⟩
      rw [et, ofP_mem] at hr'
      obtain ⟨s, hs', rfl⟩ := List.mem_map.1 hr'
      exact hs'
  · rw [hasP_of hokt, decide_eq_true_eq, et, ofP_mem]
    exact List.mem_map.2 ⟨p, hp, rfl⟩
end Go.Proofs.Ytcapmhmlipmciaa

