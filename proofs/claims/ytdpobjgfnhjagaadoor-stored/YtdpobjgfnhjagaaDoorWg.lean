import Derived.Test.YtdpobjgfnhjagaaDoorWf
namespace Go.Proofs.YtdpobjgfnhjagaaDoor
open Go.RowKit

theorem info3 : (Tryd.prog.info? 3).map (fun i => (i.zero, i.size, i.bytes)) = some (some (.int .i64 0), 1, 8) := by kernel_rfl
theorem underlying36 : Tryd.prog.underlying 36 = some (.slice 3) := by kernel_rfl

/-- Numbers as cells. -/
abbrev ints (L : List Int) : Array Value := (L.map (Value.int .i64)).toArray

theorem owns_full {w : World} {base e g n : Nat} {xs : List Value} (h : w.ownsRow base e 1 (.slice (some ⟨g, 0, none⟩) n n) n xs) : w.heap[g]? = some (.cells xs.toArray e (0, 0)) := by
  rcases h.2 with ⟨h1, _⟩ | ⟨g', cap, cur, hv, _, hh, _, _, hs, ht⟩
  · cases h1
  · simp at hv
    obtain ⟨rfl, rfl⟩ := hv
    rw [hh]
    have : cur.toList = xs := by
      rw [← ht, List.take_of_length_le]
      simp; omega
    rw [← this]

theorem cell_ints {w : World} {g : Nat} {L : List Int} {t : TypeId} (h : w.heap[g]? = some (.cells (ints L) t (0, 0))) (i : Nat) (hi : i < L.length) : w.cell? ⟨g, i, none⟩ = some (.int .i64 (L.getD i 0)) := by
  rw [cell_of_heap h]
  simp [List.getD, hi]

theorem set_ints {w : World} {g : Nat} {L : List Int} {t : TypeId} (h : w.heap[g]? = some (.cells (ints L) t (0, 0))) (i : Nat) (v : Int) : (w.setCell ⟨g, i, none⟩ (.int .i64 v)).heap[g]? = some (.cells (ints (L.set i v)) t (0, 0)) := by
  rw [heap_set h]
  simp

/-- The fixed codes' lengths. -/
def lits : List Nat := (List.range 288).map fun i => if i < 144 then 8 else if i < 256 then 9 else if i < 280 then 7 else 8
def dists : List Nat := (List.range 32).map fun _ => 5

/-- The first k of them, noughts behind. -/
def part (L : List Nat) (k : Nat) : List Int := (List.range L.length).map fun i => if i < k then (L.getD i 0 : Int) else 0

theorem part_length (L : List Nat) (k : Nat) : (part L k).length = L.length := by simp [part]
theorem part_set (L : List Nat) (k : Nat) (_hk : k < L.length) : (part L k).set k (L.getD k 0 : Int) = part L (k + 1) := by
  apply List.ext_getElem
  · simp [part]
  · intro i h1 h2
    simp [part] at h2
    simp only [part, List.getElem_set, List.getElem_map, List.getElem_range]
    by_cases e : k = i
    · subst e; simp
    · simp only [e, if_false]
      by_cases hi : i < k
      · rw [if_pos hi, if_pos (by omega)]
      · rw [if_neg hi, if_neg (by omega)]
def ni (L : List Nat) : List Int := L.map Int.ofNat
theorem part_all (L : List Nat) : part L L.length = ni L := by
  apply List.ext_getElem
  · simp [part, ni]
  · intro i h1 h2
    simp [ni] at h2
    simp [part, ni, h2]
theorem lits_length : lits.length = 288 := by simp [lits]
theorem dists_length : dists.length = 32 := by simp [dists]
theorem made_part (L : List Nat) (n : Nat) (hn : L.length = n) : (madeCells #[Value.int .i64 0] n).toList.toArray = ints (part L 0) := by
  subst hn
  apply Array.ext
  · simp [madeCells, part]
  · intro i h1 h2
    simp [madeCells, part, Nat.mod_one]

set_option maxRecDepth 100000 in
set_option maxHeartbeats 1000000 in
theorem fixedDistances_any (w : World) :
    Calls Tryd.prog 34 #[] w fun e w' => e = .returned (.slice (some ⟨w.heap.size, 0, none⟩) 32 32) ∧ w'.heap[w.heap.size]? = some (.cells (ints (ni dists)) 3 (0, 0)) ∧ Below w.heap.size w w' := by
  obtain ⟨i0, hi, hz0, hz1, hz2⟩ := info_parts info3
  go_enter Tryd.func34, Tryd.ntmps34
  go_wp2_with (at_make; refine wpList_make_full _ rfl _ _ 36 rfl w.heap.size 3 i0 (.int .i64 0) 1 underlying36 hi hz0 hz1 .i64 .i64 32 32 32 rfl rfl rfl rfl ?b1 ?b2 ?b3 ?go)
  case b1 => rw [hz2]; omega
  case b2 => unfold maxLen; omega
  case b3 => simp
  case go =>
    intro w1 hown hg
    have hh := owns_full hown
    have hfr : Below w.heap.size w w1 := (Below.refl _ _).grown hg (Nat.le_refl _) (fun k e => by cases e)
    clear hown hg
    rw [made_part dists 32 dists_length] at hh
    have HH : Hid _ := hh; clear hh
    go_wp2_with fail
    go_loopw [6] (fun i wr => ∃ k : Nat, k ≤ 32 ∧ i = .int .i64 k ∧ wr.heap[w.heap.size]? = some (.cells (ints (part dists k)) 3 (0, 0)) ∧ Below w.heap.size w wr) (fun i _ => 32 - (intOf i).toNat)
    case atStart => exact ⟨0, by omega, rfl, HH.out, hfr⟩
    case round =>
      obtain ⟨k, hk, rfl, hh, hf⟩ := hrel
      by_cases hlt : k < 32
      · obtain ⟨cv, hc⟩ : ∃ cv, wr.cell? ⟨w.heap.size, k, none⟩ = some (.int .i64 cv) := ⟨_, cell_ints hh k (by rw [part_length, dists_length]; exact hlt)⟩
        have hz := free_of_heap hh
        have HK : Hid _ := hh; clear hh
        go_wp2_with fail
        go_roundw
        case rel =>
          refine ⟨k + 1, by omega, by go_num, ?_, ?_⟩
          · have := set_ints HK.out k 5
            have e : dists.getD k 0 = 5 := by simp [dists, List.getD, hlt]
            have h2 := part_set dists k (by rw [dists_length]; exact hlt)
            rw [e] at h2
            rw [← h2]
            exact this
          · exact hf.setCell (p := ⟨w.heap.size, k, none⟩) (Nat.le_refl _) _
        case measure => simp [intOf]; omega
      · have : k = 32 := by omega
        subst this
        have HK : Hid _ := hh; clear hh
        go_wp2_with fail
        go_ret
        refine ⟨rfl, ?_, hf⟩
        rw [← part_all, dists_length]
        exact HK.out

set_option maxRecDepth 100000 in
set_option maxHeartbeats 1000000 in
set_option maxRecDepth 100000 in
theorem fixedLiterals_any (w : World) :
    Calls Tryd.prog 33 #[] w fun e w' => e = .returned (.slice (some ⟨w.heap.size, 0, none⟩) 288 288) ∧ w'.heap[w.heap.size]? = some (.cells (ints (ni lits)) 3 (0, 0)) ∧ Below w.heap.size w w' := by
  obtain ⟨i0, hi, hz0, hz1, hz2⟩ := info_parts info3
  go_enter Tryd.func33, Tryd.ntmps33
  go_wp2_with (at_make; refine wpList_make_full _ rfl _ _ 36 rfl w.heap.size 3 i0 (.int .i64 0) 1 underlying36 hi hz0 hz1 .i64 .i64 288 288 288 rfl rfl rfl rfl ?b1 ?b2 ?b3 ?go)
  case b1 => rw [hz2]; omega
  case b2 => unfold maxLen; omega
  case b3 => simp
  case go =>
    intro w1 hown hg
    have hh := owns_full hown
    have hfr : Below w.heap.size w w1 := (Below.refl _ _).grown hg (Nat.le_refl _) (fun k e => by cases e)
    clear hown hg
    rw [made_part lits 288 lits_length] at hh
    have HH : Hid _ := hh; clear hh
    go_wp2_with fail
    go_loopw [6] (fun i wr => ∃ k : Nat, k ≤ 288 ∧ i = .int .i64 k ∧ wr.heap[w.heap.size]? = some (.cells (ints (part lits k)) 3 (0, 0)) ∧ Below w.heap.size w wr) (fun i _ => 288 - (intOf i).toNat)
    case atStart => exact ⟨0, by omega, rfl, HH.out, hfr⟩
    case round =>
      obtain ⟨k, hk, rfl, hh, hf⟩ := hrel
      by_cases hlt : k < 288
      · obtain ⟨cv, hc⟩ : ∃ cv, wr.cell? ⟨w.heap.size, k, none⟩ = some (.int .i64 cv) := ⟨_, cell_ints hh k (by rw [part_length, lits_length]; exact hlt)⟩
        have hz := free_of_heap hh
        have HK : Hid _ := hh; clear hh
        have e : lits.getD k 0 = if k < 144 then 8 else if k < 256 then 9 else if k < 280 then 7 else 8 := by simp [lits, List.getD, hlt]
        have h2 := part_set lits k (by rw [lits_length]; exact hlt)
        rw [e] at h2
        have H2 : Hid _ := h2; clear h2 e
        by_cases h144 : k < 144
        · have H3 := H2.out
          rw [if_pos h144] at H3
          have H4 : Hid _ := H3; clear H3
          go_wp2_with fail
          go_roundw
          case rel =>
            refine ⟨k + 1, by omega, by go_num, ?_, hf.setCell (p := ⟨w.heap.size, k, none⟩) (Nat.le_refl _) _⟩
            rw [← H4.out]; exact set_ints HK.out k 8
          case measure => simp [intOf]; omega
        by_cases h256 : k < 256
        · have H3 := H2.out
          rw [if_neg h144, if_pos h256] at H3
          have H4 : Hid _ := H3; clear H3
          go_wp2_with fail
          go_roundw
          case rel =>
            refine ⟨k + 1, by omega, by go_num, ?_, hf.setCell (p := ⟨w.heap.size, k, none⟩) (Nat.le_refl _) _⟩
            rw [← H4.out]; exact set_ints HK.out k 9
          case measure => simp [intOf]; omega
        by_cases h280 : k < 280
        · have H3 := H2.out
          rw [if_neg h144, if_neg h256, if_pos h280] at H3
          have H4 : Hid _ := H3; clear H3
          go_wp2_with fail
          go_roundw
          case rel =>
            refine ⟨k + 1, by omega, by go_num, ?_, hf.setCell (p := ⟨w.heap.size, k, none⟩) (Nat.le_refl _) _⟩
            rw [← H4.out]; exact set_ints HK.out k 7
          case measure => simp [intOf]; omega
        · have H3 := H2.out
          rw [if_neg h144, if_neg h256, if_neg h280] at H3
          have H4 : Hid _ := H3; clear H3
          go_wp2_with fail
          go_roundw
          case rel =>
            refine ⟨k + 1, by omega, by go_num, ?_, hf.setCell (p := ⟨w.heap.size, k, none⟩) (Nat.le_refl _) _⟩
            rw [← H4.out]; exact set_ints HK.out k 8
          case measure => simp [intOf]; omega
      · have : k = 288 := by omega
        subst this
        have HK : Hid _ := hh; clear hh
        go_wp2_with fail
        go_ret
        refine ⟨rfl, ?_, hf⟩
        rw [← part_all, lits_length]
        exact HK.out

end Go.Proofs.YtdpobjgfnhjagaaDoor
