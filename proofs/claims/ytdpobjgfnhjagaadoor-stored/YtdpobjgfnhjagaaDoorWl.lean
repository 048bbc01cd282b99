import Derived.Test.YtdpobjgfnhjagaaDoorWk
namespace Go.Proofs.YtdpobjgfnhjagaaDoor
open Go.RowKit

theorem stream_a (b o c : Nat) (lim : Int) (w : World) (hb : b < w.heap.size) (hI : Lies w b o I3) (hl0 : 1 ≤ lim) (hlim : lim ≤ 60000) :
    Calls Tryd.prog 12 #[.slice (some ⟨b, o, none⟩) 3 c, .int .i64 lim] w (Answer w [97] 3) := by
  obtain ⟨a0, a1, a2, a3, a4, a5⟩ := W0_heap w (.slice (some ⟨b, o, none⟩) 3 c) lim
  have hI0 : Lies (W0 w (.slice (some ⟨b, o, none⟩) 3 c) lim) b o I3 := hI.keep (Fr.of_below a5) (by omega)
  have hB := blocks_a (w.heap.size + 3) b o c lim (W0 w (.slice (some ⟨b, o, none⟩) 3 c) lim) a3 (by omega) hI0 hl0 hlim
  refine (stream_of (some ⟨b, o, none⟩) 3 c lim w (by omega) hlim _ hB ?_).mono ?_
  · rintro e w1 ⟨h1, ⟨ov, fx, h2, h3⟩, h4⟩
    obtain ⟨ao, cp, rfl⟩ := owns_slice h3
    exact ⟨h4, Or.inl ⟨h1, _, _, _, _, _, _, _, h2⟩⟩
  · rintro e w' ⟨e1, w1, ⟨h1, ⟨ov, fx, h2, h3⟩, h4⟩, hc⟩
    have hbel : Below w.heap.size w w1 := a5.trans (h4.below (by omega) (by intro k hk; omega))
    rcases hc with ⟨q, held, left, fx', oa, on, oc, _, f, hB2, rfl⟩ | ⟨x, h5, _, _⟩
    · have hbel' : Below w.heap.size w w' := hbel.trans (f.below hbel.size (by intro k hk; omega))
      rw [hB2] at h2
      obtain ⟨ao, cp, rfl⟩ := owns_slice h3
      simp at h2
      obtain ⟨rfl, rfl, rfl, ⟨rfl, rfl, rfl⟩, rfl⟩ := h2
      refine ⟨_, rfl, ?_, hbel'⟩
      have h6 := owns_keep (w' := w') h3 fun g hg hs => f.block g hs (by have := (owns_block h3 hg).1; omega)
      exact owns_base (base' := w.heap.size) h6 (by omega)
    · rw [h5] at h1
      cases h1

theorem conv_owned {w : World} {base : Nat} {ov : Value} {out : List UInt8} (h : w.ownsRow base 5 1 ov out.length (bv8 out)) :
    (convert 25 9 ov).run Tryd.prog w = .ok (.string ⟨out.toArray⟩) w := by
  rcases h.2 with ⟨h1, h2⟩ | ⟨g, cap, cur, h1, h2, h3, h4, h5, h6, h7⟩
  · have : out = [] := List.eq_nil_of_length_eq_zero h2
    subst this
    rw [h1, run_convert_bytes_nil w 25 5 Tryd.underlying25 Tryd.underlying5 0 0 9 Tryd.underlying9]
    rfl
  · rw [h1]
    refine run_convert_bytes_back w 25 9 5 ⟨g, 0, none⟩ cap out Tryd.underlying25 Tryd.underlying5 Tryd.underlying9 ?_
    intro j hj
    rw [show (⟨g, 0, none⟩ : Addr).add j = ⟨g, j, none⟩ by simp [Addr.add]; intro h; exact h.symm, cell_of_heap h3]
    have e : (cur.toList.take (out.length * 1))[j]? = (bv8 out)[j]? := by rw [h7]
    rw [List.getElem?_take, if_pos (by omega)] at e
    simp only [Array.getElem?_toList] at e
    rw [e]
    simp [bv8, hj]

set_option maxHeartbeats 400000 in
theorem inflates_true (w : World) : Calls Tryd.prog 6 #[] w fun e w' => e = .returned (.bool true) ∧ Below w.heap.size w w' := by
  go_enter Tryd.func6, Tryd.ntmps6
  go_wp2_with fail
  have hL : Lies (w.alloc (.cells #[.int .u8 75, .int .u8 4, .int .u8 0] 5)) w.heap.size 0 I3 := by
    intro i hi
    have hh := heap_alloc_new w (.cells #[.int .u8 75, .int .u8 4, .int .u8 0] 5)
    rw [cell_of_heap hh]
    match i, hi with
    | 0, _ => rfl
    | 1, _ => rfl
    | 2, _ => rfl
  refine (inflate_of _ 9 _ _ (stream_a w.heap.size 0 3 9 _ (by simp) hL (by omega) (by omega)) ?_).mono ?_
  · rintro e w' ⟨ov, rfl, _, _⟩
    exact ⟨_, _, _, rfl⟩
  rintro e w1 ⟨ov, rfl, hown, hbel⟩
  have hcv := conv_owned hown
  go_wp2_with fail
  go_ret
  exact ⟨rfl, ((Below.refl _ _).alloc (Nat.le_refl _) _).trans (hbel.mono (by simp))⟩

set_option maxHeartbeats 400000 in
theorem pick_any (c n : Int) (w : World) (hc : -9223372036854775808 ≤ c ∧ c ≤ 9223372036854775807) (hn : 0 < n) (hn2 : n ≤ 100000) :
    Calls Tryd.prog 7 #[.int .i64 c, .int .i64 n] w fun e w' => (∃ r : Int, e = .returned (.int .i64 r) ∧ 0 ≤ r ∧ r < n) ∧ w' = w := by
  by_cases h : c < 0
  · go_enter Tryd.func7, Tryd.ntmps7
    go_wp2_with fail
    go_ret
    refine ⟨⟨-((c + 1).tmod n), rfl, ?_⟩, rfl⟩
    have e : -((c + 1).tmod n) = (-(c + 1)) % n := by rw [← Int.neg_tmod, Int.tmod_eq_emod_of_nonneg (by omega)]
    rw [e]
    exact ⟨Int.emod_nonneg _ (by omega), Int.emod_lt_of_pos _ hn⟩
  · go_enter Tryd.func7, Tryd.ntmps7
    go_wp2_with fail
    go_ret
    exact ⟨⟨c % n, rfl, Int.emod_nonneg _ (by omega), Int.emod_lt_of_pos _ hn⟩, rfl⟩

end Go.Proofs.YtdpobjgfnhjagaaDoor
