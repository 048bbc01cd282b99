import Derived.Test.YtdpobjgfnhjagaaDoorWg
namespace Go.Proofs.YtdpobjgfnhjagaaDoor
open Go.RowKit

theorem run_index16 (cs : List Int) (h16 : cs.length = 16) (k : Nat) (hk : k < 16) (w : World) : (Instr.index 112 (.agg (ints cs)) (.int .i64 k)).run Tryd.prog w = .ok (.int .i64 (cs.getD k 0)) w := by
  simp [Instr.index, run_underlying Tryd.underlying112, go_sem, hk]
  rw [List.getElem?_eq_getElem (by omega)]
  rfl

/-- Numbers lie in block g from o on. -/
structure IntsAt (w : World) (g o : Nat) (L : List Int) : Prop where
  lt : g < w.heap.size
  cell : ∀ i, i < L.length → w.cell? ⟨g, o + i, none⟩ = some (.int .i64 (L.getD i 0))

theorem IntsAt.of_heap {w : World} {g : Nat} {L : List Int} {t : TypeId} (h : w.heap[g]? = some (.cells (ints L) t (0, 0))) : IntsAt w g 0 L :=
  ⟨lt_of_heap h, fun i hi => by rw [Nat.zero_add]; exact cell_ints h i hi⟩
theorem IntsAt.below {w w' : World} {B g o : Nat} {L : List Int} (h : IntsAt w g o L) (hb : Below B w w') (hg : g < B) : IntsAt w' g o L :=
  ⟨Nat.lt_of_lt_of_le h.lt hb.size, fun i hi => (hb.cell (p := ⟨g, o + i, none⟩) hg).trans (h.cell i hi)⟩

/-- The first loop of 'sorted': where each length's symbols begin, and how many there are. -/
def run0 : List Int → Nat → List Int × Int → List Int × Int
  | [], _, st => st
  | c :: r, k, st => run0 r (k + 1) (st.1.set k st.2, st.2 + c)
def ok0 : List Int → Int → Bool
  | [], _ => true
  | c :: r, t => decide (0 ≤ t) && decide (t ≤ 1000) && decide (0 ≤ c) && decide (c ≤ 1000) && ok0 r (t + c)

/-- The second: each symbol into its place. -/
def stp2 (st : List Int × List Int) (k n : Nat) : List Int × List Int :=
  if n = 0 then st else (st.1.set n (st.1.getD n 0 + 1), st.2.set (st.1.getD n 0).toNat k)
def run2 : List Nat → Nat → List Int × List Int → List Int × List Int
  | [], _, st => st
  | n :: r, k, st => run2 r (k + 1) (stp2 st k n)
def ok2 : List Nat → Nat → Nat → List Int × List Int → Bool
  | [], _, _, _ => true
  | n :: r, k, t, st => decide (n < 16) && (decide (n = 0) || (decide (0 ≤ st.1.getD n 0) && decide (st.1.getD n 0 < t))) && ok2 r (k + 1) t (stp2 st k n)

theorem stp2_length (st : List Int × List Int) (k n : Nat) : (stp2 st k n).1.length = st.1.length ∧ (stp2 st k n).2.length = st.2.length := by
  unfold stp2; split <;> simp

theorem ni_getD (L : List Nat) (k : Nat) : (ni L).getD k 0 = ((L.getD k 0 : Nat) : Int) := by
  simp only [ni, List.getD, List.getElem?_map]
  cases L[k]? <;> rfl
theorem ni_length (L : List Nat) : (ni L).length = L.length := by simp [ni]
theorem made_zero (n : Nat) : (madeCells #[Value.int .i64 0] n).toList.toArray = ints (List.replicate n 0) := by
  apply Array.ext
  · simp [madeCells]
  · intro i h1 h2
    simp [madeCells, Nat.mod_one]

theorem drop_cons (L : List Nat) (k : Nat) (h : k < L.length) : L.drop k = L.getD k 0 :: L.drop (k + 1) := by
  rw [List.drop_eq_getElem_cons h]; simp [List.getD, h]
theorem drop_consI (L : List Int) (k : Nat) (h : k < L.length) : L.drop k = L.getD k 0 :: L.drop (k + 1) := by
  rw [List.drop_eq_getElem_cons h]; simp [List.getD, h]

set_option maxHeartbeats 2000000 in
set_option maxRecDepth 100000 in
theorem sorted_any (g o n cap t : Nat) (lens : List Nat) (c0 c1 c2 c3 c4 c5 c6 c7 c8 c9 c10 c11 c12 c13 c14 c15 : Int) (cs N S : List Int) (w : World) (hcs : cs = [c0, c1, c2, c3, c4, c5, c6, c7, c8, c9, c10, c11, c12, c13, c14, c15]) (hn : lens.length = n) (hn2 : n ≤ 320) (hL : IntsAt w g o (ni lens)) 
    (h0 : run0 cs 0 (List.replicate 16 0, 0) = (N, (t : Int))) (hk0 : ok0 cs 0 = true) (ht : t ≤ 320) (h2 : (run2 lens 0 (N, List.replicate t 0)).2 = S) (hk2 : ok2 lens 0 t (N, List.replicate t 0) = true) :
    Calls Tryd.prog 81 #[.slice (some ⟨g, o, none⟩) n cap, .agg #[.int .i64 c0, .int .i64 c1, .int .i64 c2, .int .i64 c3, .int .i64 c4, .int .i64 c5, .int .i64 c6, .int .i64 c7, .int .i64 c8, .int .i64 c9, .int .i64 c10, .int .i64 c11, .int .i64 c12, .int .i64 c13, .int .i64 c14, .int .i64 c15]] w fun e w' => e = .returned (.slice (some ⟨w.heap.size + 2, 0, none⟩) t t) ∧ w'.heap[w.heap.size + 2]? = some (.cells (ints S) 3 (0, 0)) ∧ Below w.heap.size w w' := by
  obtain ⟨i0, hi, hz0, hz1, hz2⟩ := info_parts info3
  have hg := hL.lt
  have HN : Hid _ := hn
  have H0 : Hid (run0 cs 0 (List.replicate 16 0, 0) = (N, (t : Int))) := h0; clear h0
  have H2 : Hid ((run2 lens 0 (N, List.replicate t 0)).2 = S) := h2; clear h2
  have HK0 : Hid (ok0 cs 0 = true) := hk0; clear hk0
  have HK2 : Hid (ok2 lens 0 t (N, List.replicate t 0) = true) := hk2; clear hk2
  have h16 : Hid (cs.length = 16) := by rw [hcs]; rfl
  have HC : Hid (cs = [c0, c1, c2, c3, c4, c5, c6, c7, c8, c9, c10, c11, c12, c13, c14, c15]) := hcs; clear hcs
  go_enter Tryd.func81, Tryd.ntmps81
  go_wp2_with fail
  go_loopw [6, 13] (fun tt i wr => ∃ (k : Nat) (st : List Int) (tv : Int), k ≤ 16 ∧ i = .int .i64 k ∧ tt = .int .i64 tv ∧ Hid (run0 (cs.drop k) k (st, tv) = (N, (t : Int))) ∧ Hid (ok0 (cs.drop k) tv = true) ∧ Hid (st.length = 16) ∧ wr.heap[w.heap.size + 1]? = some (.cells (ints st) 112 (0, 0)) ∧ Below w.heap.size w wr ∧ Hid (wr.heap.size = w.heap.size + 2)) (fun _ i _ => 16 - (intOf i).toNat)
  case atStart =>
    refine ⟨0, List.replicate 16 0, 0, by omega, rfl, rfl, H0.out, HK0.out, by simp [Hid], ?_, ?_, ?_⟩
    · have := heap_alloc_new (w.alloc (.cells #[.int .i64 c0, .int .i64 c1, .int .i64 c2, .int .i64 c3, .int .i64 c4, .int .i64 c5, .int .i64 c6, .int .i64 c7, .int .i64 c8, .int .i64 c9, .int .i64 c10, .int .i64 c11, .int .i64 c12, .int .i64 c13, .int .i64 c14, .int .i64 c15] 112)) (.cells (ints (List.replicate 16 0)) 112)
      rw [show (w.alloc (.cells #[.int .i64 c0, .int .i64 c1, .int .i64 c2, .int .i64 c3, .int .i64 c4, .int .i64 c5, .int .i64 c6, .int .i64 c7, .int .i64 c8, .int .i64 c9, .int .i64 c10, .int .i64 c11, .int .i64 c12, .int .i64 c13, .int .i64 c14, .int .i64 c15] 112)).heap.size = w.heap.size + 1 from by simp] at this
      exact this
    · exact ((Below.refl _ _).alloc (Nat.le_refl _) _).alloc (by simp) _
    · simp [Hid]
  case round =>
    obtain ⟨k, st, tv, hk, rfl, rfl, hr, hok, hsl, hh, hbel, hsz⟩ := hrel
    by_cases hlt : k < 16
    · obtain ⟨cv, hc⟩ : ∃ cv, wr.cell? ⟨w.heap.size + 1, k, none⟩ = some (.int .i64 cv) := ⟨_, cell_ints hh k (by rw [hsl.out]; exact hlt)⟩
      have hz := free_of_heap hh
      obtain ⟨cv2, hcv2⟩ : ∃ v, Hid (cs.getD k 0 = v) := ⟨_, rfl⟩
      have hidx : ∀ w, (Instr.index 112 (.agg #[.int .i64 c0, .int .i64 c1, .int .i64 c2, .int .i64 c3, .int .i64 c4, .int .i64 c5, .int .i64 c6, .int .i64 c7, .int .i64 c8, .int .i64 c9, .int .i64 c10, .int .i64 c11, .int .i64 c12, .int .i64 c13, .int .i64 c14, .int .i64 c15]) (.int .i64 k)).run Tryd.prog w = .ok (.int .i64 cv2) w := by
        intro w'
        have := run_index16 cs h16.out k hlt w'
        rw [hcv2.out, HC.out] at this
        exact this
      have hr1 := hr.out
      have hok1 := hok.out
      rw [drop_consI cs k (by rw [h16.out]; exact hlt), hcv2.out] at hr1 hok1
      simp only [run0, ok0, Bool.and_eq_true, decide_eq_true_eq] at hr1 hok1
      obtain ⟨⟨⟨⟨b1, b2⟩, b3⟩, b4⟩, hok2⟩ := hok1
      have HK : Hid _ := hh; clear hh
      have HR1 : Hid _ := hr1; clear hr1
      have HO2 : Hid _ := hok2; clear hok2
      go_wp2_with fail
      go_roundw
      case rel =>
        refine ⟨k + 1, st.set k tv, tv + cv2, by omega, by go_num, rfl, HR1.out, HO2.out, ?_, set_ints HK.out k tv, hbel.setCell (p := ⟨w.heap.size + 1, k, none⟩) (Nat.le_add_right _ _) _, ?_⟩
        · have := hsl.out
          show (st.set k tv).length = 16
          simpa using this
        · have := hsz.out
          simpa [World.setCell, Hid] using this
      case measure => simp [intOf]; omega
    · have : k = 16 := by omega
      subst this
      have hr1 := hr.out
      rw [List.drop_of_length_le (by rw [h16.out]; omega)] at hr1
      simp only [run0, Prod.mk.injEq] at hr1
      obtain ⟨rfl, rfl⟩ := hr1
      have HK : Hid _ := hh; clear hh hn
      go_wp2_with (at_make; refine wpList_make_full _ rfl _ _ 36 rfl (w.heap.size + 2) 3 i0 (.int .i64 0) 1 underlying36 hi hz0 hz1 .i64 .i64 t t t rfl rfl rfl rfl ?b1 ?b2 ?b3 ?go)
      case b1 => rw [hz2]; omega
      case b2 => unfold maxLen; omega
      case b3 => rw [hsz.out]; omega
      case go =>
        intro w1 hown hg1
        have hS := owns_full hown
        rw [hsz.out, made_zero t] at hS
        have hb1 : Below w.heap.size w w1 := hbel.grown hg1 (by rw [hsz.out]; omega) (fun k e => by cases e)
        have hN : w1.heap[w.heap.size + 1]? = some (.cells (ints st) 112 (0, 0)) := (hg1.block _ (by rw [hsz.out]; omega) (by simp)).trans HK.out
        rw [hsz.out]
        clear hown hg1
        have HS : Hid _ := hS; clear hS
        have HNN : Hid _ := hN; clear hN
        go_wp2_with fail
        go_loopw [28] (fun i w2 => ∃ (k : Nat) (st : List Int × List Int), k ≤ n ∧ i = .int .i64 k ∧ Hid ((run2 (lens.drop k) k st).2 = S) ∧ Hid (ok2 (lens.drop k) k t st = true) ∧ Hid (st.1.length = 16) ∧ Hid (st.2.length = t) ∧ w2.heap[w.heap.size + 1]? = some (.cells (ints st.1) 112 (0, 0)) ∧ w2.heap[w.heap.size + 2]? = some (.cells (ints st.2) 3 (0, 0)) ∧ Below w.heap.size w w2) (fun i _ => n - (intOf i).toNat)
        case atStart => exact ⟨0, (st, List.replicate t 0), by omega, rfl, H2.out, HK2.out, hsl.out, by simp [Hid], HNN.out, HS.out, hb1⟩
        case round =>
          obtain ⟨k, st, hk, rfl, hr, hok, hl1, hl2, hh1, hh2, hbw⟩ := hrel
          by_cases hlt : k < n
          · have hkl : k < lens.length := by rw [HN.out]; exact hlt
            have hgc : wr.cell? ⟨g, o + k, none⟩ = some (.int .i64 ((ni lens).getD k 0)) := (hL.below hbw hg).cell k (by rw [ni_length]; exact hkl)
            rw [ni_getD] at hgc
            have hr1 := hr.out
            have hok1 := hok.out
            rw [drop_cons lens k hkl] at hr1 hok1
            generalize lens.getD k 0 = m at hgc hr1 hok1
            simp only [run2, ok2, Bool.and_eq_true, Bool.or_eq_true, decide_eq_true_eq] at hr1 hok1
            obtain ⟨⟨hm, hcase⟩, hok3⟩ := hok1
            have HR1 : Hid _ := hr1; clear hr1
            have HO3 : Hid _ := hok3; clear hok3
            by_cases hm0 : m = 0
            · subst hm0
              have h1 : Hid _ := hh1; clear hh1
              have h2 : Hid _ := hh2; clear hh2
              clear hcase
              go_wp2_with fail
              go_roundw
              case rel => exact ⟨k + 1, st, by omega, by go_num, HR1.out, HO3.out, hl1, hl2, h1.out, h2.out, hbw⟩
              case measure => simp [intOf]; omega
            · obtain ⟨v0, v1⟩ := hcase.resolve_left hm0
              obtain ⟨v, hv⟩ := Int.eq_ofNat_of_zero_le v0
              have hnc : wr.cell? ⟨w.heap.size + 1, m, none⟩ = some (.int .i64 (st.1.getD m 0)) := cell_ints hh1 m (by rw [hl1.out]; exact hm)
              rw [hv] at hnc
              have hvt : v < t := by omega
              obtain ⟨sv, hsc⟩ : ∃ sv, wr.cell? ⟨w.heap.size + 2, v, none⟩ = some (.int .i64 sv) := ⟨_, cell_ints hh2 v (by rw [hl2.out]; exact hvt)⟩
              have hz1 := free_of_heap hh1
              have hz2 := free_of_heap hh2
              have hmp : (0 : Int) < (m : Int) := by omega
              have h1 : Hid _ := hh1; clear hh1
              have h2 : Hid _ := hh2; clear hh2
              have HV : Hid (st.1.getD m 0 = (v : Int)) := hv; clear hv v0 v1 hcase
              go_wp2_with fail
              go_roundw
              case rel =>
                have e1 : stp2 st k m = (st.1.set m ((v : Int) + 1), st.2.set v k) := by
                  unfold stp2; rw [if_neg hm0, HV.out]; simp
                have hr2 := HR1.out
                have ho2 := HO3.out
                rw [e1] at hr2 ho2
                refine ⟨k + 1, (st.1.set m ((v : Int) + 1), st.2.set v k), by omega, by go_num, hr2, ho2, ?_, ?_, ?_, ?_, ?_⟩
                · have := hl1.out
                  simpa [Hid] using this
                · have := hl2.out
                  simpa [Hid] using this
                · exact set_ints ((heap_set_other (by omega) _ _).trans h1.out) m _
                · exact (heap_set_other (by omega) _ _).trans (set_ints h2.out v k)
                · exact (hbw.setCell (p := ⟨w.heap.size + 2, v, none⟩) (Nat.le_add_right _ _) _).setCell (p := ⟨w.heap.size + 1, m, none⟩) (Nat.le_add_right _ _) _
              case measure => simp [intOf]; omega
          · have : k = n := by omega
            subst this
            have hr1 := hr.out
            rw [List.drop_of_length_le (by rw [HN.out]; omega)] at hr1
            simp only [run2] at hr1
            have HR1 : Hid (st.2 = S) := hr1; clear hr1
            have h1 : Hid _ := hh1; clear hh1
            have h2 : Hid _ := hh2; clear hh2
            go_wp2_with fail
            go_ret
            refine ⟨rfl, ?_, hbw⟩
            rw [← HR1.out]
            exact h2.out

end Go.Proofs.YtdpobjgfnhjagaaDoor
