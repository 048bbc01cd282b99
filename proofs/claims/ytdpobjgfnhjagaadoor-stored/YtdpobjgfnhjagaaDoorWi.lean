import Derived.Test.YtdpobjgfnhjagaaDoorWh
namespace Go.Proofs.YtdpobjgfnhjagaaDoor
open Go.RowKit

/-- A code's block. -/
def codeArr (cs : List Int) (sv : Value) (lg : Int) : Array Value := (cs.map (Value.int .i64) ++ [sv, .int .i64 lg]).toArray
abbrev CB (cs : List Int) (sv : Value) (lg : Int) : Obj := .cells (codeArr cs sv lg) 117 (0, 0)

theorem code_cell {w : World} {c : Nat} {cs : List Int} {sv : Value} {lg : Int} (h : w.heap[c]? = some (CB cs sv lg)) (h16 : cs.length = 16) :
    (∀ i, i < 16 → w.cell? ⟨c, i, none⟩ = some (.int .i64 (cs.getD i 0))) ∧ w.cell? ⟨c, 16, none⟩ = some sv ∧ w.cell? ⟨c, 17, none⟩ = some (.int .i64 lg) ∧ (∀ i, w.frozen? ⟨c, i, none⟩ = false) := by
  refine ⟨fun i hi => ?_, ?_, ?_, free_of_heap h⟩
  · rw [cell_of_heap h]; simp [codeArr, List.getElem?_append, h16, hi, List.getD]
  · rw [cell_of_heap h]; simp [codeArr, h16]
  · rw [cell_of_heap h]; simp [codeArr, h16]

theorem code_set {w : World} {c : Nat} {cs : List Int} {sv : Value} {lg : Int} (h : w.heap[c]? = some (CB cs sv lg)) (h16 : cs.length = 16) (i : Nat) (hi : i < 16) (v : Int) : (w.setCell ⟨c, i, none⟩ (.int .i64 v)).heap[c]? = some (CB (cs.set i v) sv lg) := by
  rw [heap_set h]
  simp [codeArr, h16, hi, List.map_set]
theorem code_set16 {w : World} {c : Nat} {cs : List Int} {sv : Value} {lg : Int} (h : w.heap[c]? = some (CB cs sv lg)) (h16 : cs.length = 16) (v : Value) : (w.setCell ⟨c, 16, none⟩ v).heap[c]? = some (CB cs v lg) := by
  rw [heap_set h]
  simp [codeArr, h16]
theorem code_set17 {w : World} {c : Nat} {cs : List Int} {sv : Value} {lg : Int} (h : w.heap[c]? = some (CB cs sv lg)) (h16 : cs.length = 16) (v : Int) : (w.setCell ⟨c, 17, none⟩ (.int .i64 v)).heap[c]? = some (CB cs sv v) := by
  rw [heap_set h]
  simp [codeArr, h16]

/-- Make's loop: how many there are of each length, and the longest. -/
def stp1 (st : List Int × Int) (n : Nat) : List Int × Int := if n = 0 then st else (st.1.set n (st.1.getD n 0 + 1), if st.2 < (n : Int) then (n : Int) else st.2)
def run1 : List Nat → List Int × Int → List Int × Int
  | [], st => st
  | n :: r, st => run1 r (stp1 st n)
def ok1 : List Nat → List Int × Int → Bool
  | [], _ => true
  | n :: r, st => decide (n < 16) && decide (0 ≤ st.1.getD n 0) && decide (st.1.getD n 0 ≤ 1000) && ok1 r (stp1 st n)

set_option maxHeartbeats 2000000 in
set_option maxRecDepth 100000 in
theorem make_any (g o n cap t : Nat) (lens : List Nat) (c0 c1 c2 c3 c4 c5 c6 c7 c8 c9 c10 c11 c12 c13 c14 c15 lg : Int) (cs N S : List Int) (w : World) (hcs : cs = [c0, c1, c2, c3, c4, c5, c6, c7, c8, c9, c10, c11, c12, c13, c14, c15]) (hn : lens.length = n) (hn2 : n ≤ 320) (hL : IntsAt w g o (ni lens))
    (h1 : run1 lens (List.replicate 16 0, 0) = (cs, lg)) (hk1 : ok1 lens (List.replicate 16 0, 0) = true)
    (h0 : run0 cs 0 (List.replicate 16 0, 0) = (N, (t : Int))) (hk0 : ok0 cs 0 = true) (ht : t ≤ 320) (h2 : (run2 lens 0 (N, List.replicate t 0)).2 = S) (hk2 : ok2 lens 0 t (N, List.replicate t 0) = true) :
    Calls Tryd.prog 67 #[.slice (some ⟨g, o, none⟩) n cap] w fun e w' => e = .returned (.pointer (some ⟨w.heap.size, 0, none⟩)) ∧ w'.heap[w.heap.size]? = some (CB cs (.slice (some ⟨w.heap.size + 3, 0, none⟩) t t) lg) ∧ w'.heap[w.heap.size + 3]? = some (.cells (ints S) 3 (0, 0)) ∧ Below w.heap.size w w' := by
  have hg := hL.lt
  have HN : Hid (lens.length = n) := hn
  have H1 : Hid (run1 lens (List.replicate 16 0, 0) = (cs, lg)) := h1; clear h1
  have HK1 : Hid (ok1 lens (List.replicate 16 0, 0) = true) := hk1; clear hk1
  have H0 : Hid (run0 cs 0 (List.replicate 16 0, 0) = (N, (t : Int))) := h0; clear h0
  have H2 : Hid ((run2 lens 0 (N, List.replicate t 0)).2 = S) := h2; clear h2
  have HK0 : Hid (ok0 cs 0 = true) := hk0; clear hk0
  have HK2 : Hid (ok2 lens 0 t (N, List.replicate t 0) = true) := hk2; clear hk2
  have h16 : Hid (cs.length = 16) := by rw [hcs]; rfl
  have HC : Hid (cs = [c0, c1, c2, c3, c4, c5, c6, c7, c8, c9, c10, c11, c12, c13, c14, c15]) := hcs; clear hcs hn
  go_enter Tryd.func67, Tryd.ntmps67
  go_wp2_with fail
  go_loopw [10] (fun i wr => ∃ (k : Nat) (st : List Int × Int), k ≤ n ∧ i = .int .i64 k ∧ Hid (run1 (lens.drop k) st = (cs, lg)) ∧ Hid (ok1 (lens.drop k) st = true) ∧ Hid (st.1.length = 16) ∧ wr.heap[w.heap.size]? = some (CB st.1 (.slice none 0 0) st.2) ∧ Below w.heap.size w wr ∧ Hid (wr.heap.size = w.heap.size + 1)) (fun i _ => n - (intOf i).toNat)
  case atStart =>
    refine ⟨0, (List.replicate 16 0, 0), by omega, rfl, H1.out, HK1.out, by simp [Hid], ?_, ?_, ?_⟩
    · exact heap_alloc_new w _
    · exact (Below.refl _ _).alloc (Nat.le_refl _) _
    · simp [Hid]
  case round =>
    obtain ⟨k, st, hk, rfl, hr, hok, hl1, hh, hbw, hsz⟩ := hrel
    by_cases hlt : k < n
    · have hkl : k < lens.length := by rw [HN.out]; exact hlt
      have hgc : wr.cell? ⟨g, o + k, none⟩ = some (.int .i64 ((ni lens).getD k 0)) := (hL.below hbw hg).cell k (by rw [ni_length]; exact hkl)
      rw [ni_getD] at hgc
      have hr1 := hr.out
      have hok1 := hok.out
      rw [drop_cons lens k hkl] at hr1 hok1
      generalize lens.getD k 0 = m at hgc hr1 hok1
      simp only [run1, ok1, Bool.and_eq_true, decide_eq_true_eq] at hr1 hok1
      obtain ⟨⟨⟨hm, v0⟩, v1⟩, hok3⟩ := hok1
      have HR1 : Hid _ := hr1; clear hr1
      have HO3 : Hid _ := hok3; clear hok3
      by_cases hm0 : m = 0
      · subst hm0
        have h1 : Hid _ := hh; clear hh
        clear v0 v1
        go_wp2_with fail
        go_roundw
        case rel => exact ⟨k + 1, st, by omega, by go_num, HR1.out, HO3.out, hl1, h1.out, hbw, hsz⟩
        case measure => simp [intOf]; omega
      · obtain ⟨e1, e2, e3, e4⟩ := code_cell hh hl1.out
        have hc := e1 m hm
        obtain ⟨v, hv⟩ : ∃ v, Hid (st.1.getD m 0 = v) := ⟨_, rfl⟩
        rw [hv.out] at hc v0 v1
        have hmp : (0 : Int) < (m : Int) := by omega
        have h1 : Hid _ := hh; clear hh e1
        go_wp2_with fail
        go_region
        go_wp2_with fail
        go_roundw
        case rel =>
          have e5 : stp1 st m = (st.1.set m (v + 1), if st.2 < (m : Int) then (m : Int) else st.2) := by
            unfold stp1; rw [if_neg hm0, hv.out]
          have hr2 := HR1.out
          have ho2 := HO3.out
          rw [e5] at hr2 ho2
          have hl2 : (st.1.set m (v + 1)).length = 16 := by rw [List.length_set]; exact hl1.out
          refine ⟨k + 1, (st.1.set m (v + 1), if st.2 < (m : Int) then (m : Int) else st.2), by omega, by go_num, hr2, ho2, hl2, ?_, ?_, ?_⟩
          · exact code_set17 (code_set h1.out hl1.out m hm (v + 1)) hl2 _
          · exact ((hbw.setCell (p := ⟨w.heap.size, m, none⟩) (Nat.le_refl _) _).setCell (p := ⟨w.heap.size, 17, none⟩) (Nat.le_refl _) _).drew
          · have := hsz.out
            simpa [World.setCell, Hid, heap_drew] using this
        case measure => simp [intOf]; omega
    · have : k = n := by omega
      subst this
      have hr1 := hr.out
      rw [List.drop_of_length_le (by rw [HN.out]; omega)] at hr1
      simp only [run1] at hr1
      subst hr1
      obtain ⟨e1, e2, e3, e4⟩ := code_cell hh h16.out
      have d0 := e1 0 (by omega)
      have d1 := e1 1 (by omega)
      have d2 := e1 2 (by omega)
      have d3 := e1 3 (by omega)
      have d4 := e1 4 (by omega)
      have d5 := e1 5 (by omega)
      have d6 := e1 6 (by omega)
      have d7 := e1 7 (by omega)
      have d8 := e1 8 (by omega)
      have d9 := e1 9 (by omega)
      have d10 := e1 10 (by omega)
      have d11 := e1 11 (by omega)
      have d12 := e1 12 (by omega)
      have d13 := e1 13 (by omega)
      have d14 := e1 14 (by omega)
      have d15 := e1 15 (by omega)
      rw [HC.out] at d0 d1 d2 d3 d4 d5 d6 d7 d8 d9 d10 d11 d12 d13 d14 d15
      simp only [List.getD_cons_zero, List.getD_cons_succ] at d0 d1 d2 d3 d4 d5 d6 d7 d8 d9 d10 d11 d12 d13 d14 d15
      have hG : IntsAt wr g o (ni lens) := hL.below hbw hg
      have h1 : Hid _ := hh; clear hh e1
      go_wp2_with fail
      refine (sorted_any g o k cap t lens c0 c1 c2 c3 c4 c5 c6 c7 c8 c9 c10 c11 c12 c13 c14 c15 cs N S wr HC.out HN.out hn2 hG H0.out HK0.out ht H2.out HK2.out).mono ?_
      rintro e w2 ⟨rfl, k2, b2⟩
      rw [show wr.heap.size + 2 = w.heap.size + 3 from by rw [hsz.out]] at k2 ⊢
      rw [hsz.out] at b2
      have h2 : w2.heap[w.heap.size]? = some (CB cs (.slice none 0 0) lg) := (b2.block _ (by omega)).trans h1.out
      obtain ⟨e1, f2, f3, f4⟩ := code_cell h2 h16.out
      have K2 : Hid _ := k2; clear k2
      have HH2 : Hid (w2.heap[w.heap.size]? = some (CB cs (.slice none 0 0) lg)) := h2; clear h2 e1
      go_wp2_with fail
      go_ret
      refine ⟨rfl, code_set16 HH2.out h16.out _, (heap_set_other (by omega) _ _).trans K2.out, ?_⟩
      exact (hbw.trans (b2.mono (by omega))).setCell (p := ⟨w.heap.size, 16, none⟩) (Nat.le_refl _) _

end Go.Proofs.YtdpobjgfnhjagaaDoor
