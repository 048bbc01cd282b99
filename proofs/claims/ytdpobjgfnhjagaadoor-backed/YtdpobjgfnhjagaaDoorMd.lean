import Derived.Test.YtdpobjgfnhjagaaDoorMc
namespace Go.Proofs.YtdpobjgfnhjagaaDoor
open Go.RowKit

theorem NdAt.take {w : World} {g cap : Nat} {l : List Nd} (h : NdAt w g cap l) (n : Nat) : NdAt w g cap (l.take n) := by
  obtain ⟨cur, h1, h2, h3, h4, h5⟩ := h
  refine ⟨cur, h1, h2, by simp; omega, h4, ?_⟩
  have e : ndC (l.take n) = (ndC l).take (n * 2) := by
    clear h5 h3
    induction l generalizing n with
    | nil => simp [ndC]
    | cons a r ih =>
      cases n with
      | zero => simp [ndC]
      | succ n =>
        have := ih n
        simp only [ndC, List.take_succ_cons, List.flatMap_cons] at this ⊢
        rw [this, show (n + 1) * 2 = n * 2 + 1 + 1 by omega]
        simp
  rw [e, ← h5, List.take_take, List.length_take]
  congr 1
  omega

theorem sinkGo_length : ∀ f i (m : List Nd), (sinkGo f i m).length = m.length := by
  intro f
  induction f with
  | zero => intro i m; rfl
  | succ f ih =>
    intro i m
    simp only [sinkGo]
    split
    · rfl
    · rw [ih, swp_length]

theorem pop_sink {w : World} {B g cap m : Nat} {l : List Nd} {v0 : Value} {y1 y2 : Nat} {t1 t2 : Array Value} (hN : NdAt w g cap l) (hB : w.heap[B]? = some (.cells #[v0] 126 (0, 0))) (hBg : B < g) (hl : l.length = m + 1) (hm : m ≤ 1000) (hy : nd l m = (y1, y2)) :
    Calls Tryd.prog 94 #[.slice (some ⟨g, 0, none⟩) m cap, .int .i64 0] (((((w.setCell ⟨g, 0, none⟩ (.int .i64 (y1 : Int))).setCell ⟨g, 1, none⟩ (.int .i64 (y2 : Int))).setCell ⟨B, 0, none⟩ (.slice (some ⟨g, 0, none⟩) m cap)).alloc (.cells t1 129)).alloc (.cells t2 129))
      fun e w' => e = .returned (.tuple #[]) ∧ w'.heap[B]? = some (.cells #[.slice (some ⟨g, 0, none⟩) m cap] 126 (0, 0)) ∧ w'.ownsRow (B + 1) 129 2 (.slice (some ⟨g, 0, none⟩) m cap) (popL l).length (ndC (popL l)) ∧ Kt 129 B w w' ∧ w'.heap[w.heap.size]? = some (.cells t1 129 (0, 0)) ∧ w'.heap[w.heap.size + 1]? = some (.cells t2 129 (0, 0)) := by
  have hgl := hN.lt
  have hBl := lt_of_heap hB
  obtain ⟨cur, hcur, _⟩ := id hN
  have h1 := hN.set 0 (y1, y2) (by omega)
  rw [Nat.zero_mul, Nat.zero_add] at h1
  have h2 := h1.take m
  obtain ⟨W1, hW1⟩ : ∃ W1, W1 = (w.setCell ⟨g, 0, none⟩ (.int .i64 (y1 : Int))).setCell ⟨g, 1, none⟩ (.int .i64 (y2 : Int)) := ⟨_, rfl⟩
  have f1 : Fr (fun k => k = B ∨ k = g) w W1 := by
    rw [hW1]
    exact ((Fr.refl _ w).setCell (p := ⟨g, 0, none⟩) (Or.inr rfl) _).setCell (p := ⟨g, 1, none⟩) (Or.inr rfl) _
  have hB1 : W1.heap[B]? = some (.cells #[v0] 126 (0, 0)) := by
    rw [hW1]
    exact (heap_set_other (by omega) _ _).trans ((heap_set_other (by omega) _ _).trans hB)
  have hs1 : W1.heap.size = w.heap.size := by rw [hW1]; simp [World.setCell]
  rw [← hW1] at h1 h2 ⊢
  obtain ⟨W2, hW2⟩ : ∃ W2, W2 = W1.setCell ⟨B, 0, none⟩ (.slice (some ⟨g, 0, none⟩) m cap) := ⟨_, rfl⟩
  have f2 : Fr (fun k => k = B ∨ k = g) w W2 := by
    rw [hW2]
    exact f1.setCell (p := ⟨B, 0, none⟩) (Or.inl rfl) _
  have hB2 : W2.heap[B]? = some (.cells #[.slice (some ⟨g, 0, none⟩) m cap] 126 (0, 0)) := by
    rw [hW2]
    exact heap_set hB1 0 _
  have h3 : NdAt W2 g cap ((l.set 0 (y1, y2)).take m) := by
    rw [hW2]
    exact h2.keep (heap_set_other (by omega) _ _)
  have hs2 : W2.heap.size = w.heap.size := by rw [hW2]; simpa [World.setCell] using hs1
  rw [← hW2]
  have h4 : NdAt ((W2.alloc (.cells t1 129)).alloc (.cells t2 129)) g cap ((l.set 0 (y1, y2)).take m) := h3.keep ((heap_alloc_old (by simp; omega) _).trans (heap_alloc_old (by omega) _))
  have hlen : ((l.set 0 (y1, y2)).take m).length = m := by simp; omega
  have hdef : popL l = sinkGo (m + 1) 0 ((l.set 0 (y1, y2)).take m) := by
    unfold popL
    rw [hl]
    show sinkGo (m + 1) 0 ((l.set 0 (nd l m)).take m) = _
    rw [hy]
  refine (sink_any g 0 m cap _ (popL l) _ h4 hlen (by omega) hm (by rw [hdef]; rfl)).mono ?_
  rintro e w' ⟨rfl, k1, k2⟩
  have hB3 : w'.heap[B]? = some (.cells #[.slice (some ⟨g, 0, none⟩) m cap] 126 (0, 0)) := by
    rw [k2.block B (by simp; omega) (by simp [One]; omega)]
    exact (heap_alloc_old (by simp; omega) _).trans ((heap_alloc_old (by omega) _).trans hB2)
  have hpl : (popL l).length = m := by rw [hdef, sinkGo_length, hlen]
  have hf : Fr (fun k => k = B ∨ k = g) w w' := ((f2.alloc _).alloc _).trans (k2.mono fun k _ e => Or.inr e)
  refine ⟨rfl, hB3, ?_, Kt.two hBl hBg hcur hf, ?_, ?_⟩
  · have := nd_owns (base := B + 1) k1 (by omega)
    rw [hpl] at this ⊢
    exact this
  · rw [k2.block w.heap.size (by simp; omega) (by simp [One]; omega)]
    rw [← hs2]
    exact (heap_alloc_old (by simp) _).trans (heap_alloc_new _ _)
  · rw [k2.block (w.heap.size + 1) (by simp; omega) (by simp [One]; omega)]
    have := heap_alloc_new (W2.alloc (.cells t1 129)) (.cells t2 129)
    rw [show (W2.alloc (.cells t1 129)).heap.size = w.heap.size + 1 by simp; omega] at this
    exact this

set_option maxRecDepth 100000 in
set_option maxHeartbeats 1000000 in
theorem pop_any (B x1 x2 : Nat) (l : List Nd) (w : World) (h : HpAt B w l) (hl : l.length ≤ 1000) (hl0 : 0 < l.length) (hx : nd l 0 = (x1, x2)) :
    Calls Tryd.prog 88 #[.pointer (some ⟨B, 0, none⟩)] w fun e w' => e = .returned (.agg #[.int .i64 (x1 : Int), .int .i64 (x2 : Int)]) ∧ HpAt B w' (popL l) ∧ Kt 129 B w w' := by
  obtain ⟨v, hh, ho⟩ := h
  obtain ⟨m, hm⟩ : ∃ m, l.length = m + 1 := ⟨l.length - 1, by omega⟩
  rw [hm] at ho
  obtain ⟨g, cap, rfl⟩ : ∃ g cap, v = .slice (some ⟨g, 0, none⟩) (m + 1) cap := by
    rcases ho.2 with ⟨_, h2⟩ | ⟨g, cap, _, h2, _⟩
    · omega
    · exact ⟨g, cap, h2⟩
  obtain ⟨hN, hBg, _⟩ := owns_nd ho
  clear ho
  have hcap : m + 1 ≤ cap := by
    obtain ⟨_, _, _, q, _⟩ := hN
    omega
  have hcapm : cap ≤ maxLen := by
    obtain ⟨_, _, _, _, q, _⟩ := hN
    exact q
  unfold maxLen at hcapm
  obtain ⟨a0, a1⟩ := hN.cells 0 (by omega)
  obtain ⟨b0, b1⟩ := hN.cells m (by omega)
  have fz := hN.free
  have hgl := hN.lt
  have hBl := lt_of_heap hh
  have c0 : w.cell? ⟨B, 0, none⟩ = some (.slice (some ⟨g, 0, none⟩) (m + 1) cap) := cell_of_heap hh 0
  have fB := free_of_heap hh
  have hne : ¬ g = B := by omega
  rw [hx] at a0 a1
  obtain ⟨⟨y1, y2⟩, hy⟩ : ∃ y, nd l m = y := ⟨_, rfl⟩
  rw [hy] at b0 b1
  rw [Nat.zero_mul] at a0
  rw [Nat.zero_mul, Nat.zero_add] at a1
  simp only at a0 a1 b0 b1
  have HC : Hid _ := pop_sink (t1 := #[.int .i64 0, .int .i64 0]) (t2 := #[.int .i64 (x1 : Int), .int .i64 (x2 : Int)]) hN hh (by omega) hm (by omega) hy
  clear hh hN hx hy hm
  go_enter Tryd.func88, Tryd.ntmps88
  go_wp2_with fail
  refine Calls.mono HC.out ?_
  rintro e w2 ⟨rfl, q1, q2, k2, s1, s2⟩
  have d0 : w2.cell? ⟨w.heap.size + 1, 0, none⟩ = some (.int .i64 (x1 : Int)) := cell_of_heap s2 0
  have d1 : w2.cell? ⟨w.heap.size + 1, 1, none⟩ = some (.int .i64 (x2 : Int)) := cell_of_heap s2 1
  have e0 : w2.cell? ⟨w.heap.size, 0, none⟩ = some (.int .i64 0) := cell_of_heap s1 0
  have e1 : w2.cell? ⟨w.heap.size, 1, none⟩ = some (.int .i64 0) := cell_of_heap s1 1
  have fe := free_of_heap s1
  have S1 : Hid (w2.heap[w.heap.size]? = some (.cells #[.int .i64 0, .int .i64 0] 129 (0, 0))) := s1
  have Q1 : Hid (w2.heap[B]? = some (.cells #[.slice (some ⟨g, 0, none⟩) m cap] 126 (0, 0))) := q1
  clear s1 s2 HC c0 a0 a1 b0 b1 q1
  go_wp2_with fail
  (try simp only [Exit.inBlock, Exit.then])
  have hset := heap_set (heap_set S1.out 0 (.int .i64 (x1 : Int))) 1 (.int .i64 (x2 : Int))
  refine bodyPost_ret (results_cell_row rfl _ _ w.heap.size 129 #[.int .i64 (x1 : Int), .int .i64 (x2 : Int)] (0, 0) _ rfl hset Tryd.underlying129 rfl rfl) rfl ?_
  refine ⟨rfl, ?_, ?_⟩
  · refine ⟨_, (heap_set_other (by omega) _ _).trans ((heap_set_other (by omega) _ _).trans Q1.out), ?_⟩
    refine owns_keep q2 (fun g' hg' _ => ?_)
    simp [Value.ownBlock] at hg'
    exact (heap_set_other (by omega) _ _).trans (heap_set_other (by omega) _ _)
  · refine ⟨(k2.below.setCell (p := ⟨w.heap.size, 0, none⟩) (by show B ≤ w.heap.size; omega) _).setCell (p := ⟨w.heap.size, 1, none⟩) (by show B ≤ w.heap.size; omega) _, fun k arr t f h1 h2 h3 => ?_⟩
    have hk := lt_of_heap h3
    exact (heap_set_other (by omega) _ _).trans ((heap_set_other (by omega) _ _).trans (k2.other k arr t f h1 h2 h3))

end Go.Proofs.YtdpobjgfnhjagaaDoor

namespace Go.Proofs.YtdpobjgfnhjagaaDoor

/-- f 0 + .. + f (n - 1). -/
def sumTo (f : Nat → Nat) : Nat → Nat
  | 0 => 0
  | n + 1 => sumTo f n + f n

theorem sumTo_congr (f g : Nat → Nat) (n : Nat) (h : ∀ i, i < n → f i = g i) : sumTo f n = sumTo g n := by
  induction n with
  | zero => rfl
  | succ n ih => simp only [sumTo]; rw [ih (fun i hi => h i (by omega)), h n (by omega)]
theorem sumTo_add (f g : Nat → Nat) (n : Nat) : sumTo (fun i => f i + g i) n = sumTo f n + sumTo g n := by
  induction n with
  | zero => rfl
  | succ n ih => simp only [sumTo]; rw [ih]; omega
theorem sumTo_le (f g : Nat → Nat) (n : Nat) (h : ∀ i, i < n → f i ≤ g i) : sumTo f n ≤ sumTo g n := by
  induction n with
  | zero => exact Nat.le_refl _
  | succ n ih =>
    have := ih (fun i hi => h i (by omega))
    have := h n (by omega)
    simp only [sumTo]; omega
theorem sumTo_one (p c n : Nat) : sumTo (fun i => if i = p then c else 0) n = if p < n then c else 0 := by
  induction n with
  | zero => rfl
  | succ n ih =>
    simp only [sumTo, ih]
    by_cases h : n = p
    · subst h; simp
    · rw [if_neg h]
      by_cases h2 : p < n
      · rw [if_pos h2, if_pos (by omega), Nat.add_zero]
      · rw [if_neg h2, if_neg (by omega)]
theorem sumTo_zero (f : Nat → Nat) (n : Nat) (h : ∀ i, i < n → f i = 0) : sumTo f n = 0 := by
  rw [sumTo_congr f (fun _ => 0) n h]
  induction n with
  | zero => rfl
  | succ n ih => simp only [sumTo]; rw [ih (fun i hi => h i (by omega))]
theorem sumTo_ext (f : Nat → Nat) (m n : Nat) (hmn : m ≤ n) (h : ∀ i, m ≤ i → i < n → f i = 0) : sumTo f n = sumTo f m := by
  induction n with
  | zero => rw [show m = 0 by omega]
  | succ n ih =>
    by_cases e : m = n + 1
    · rw [e]
    · simp only [sumTo]
      rw [ih (by omega) (fun i h1 h2 => h i h1 (by omega)), h n (by omega) (by omega)]; rfl

abbrev gd (l : List Nat) (i : Nat) : Nat := l.getD i 0

theorem gd_snoc (l : List Nat) (a i : Nat) : gd (l ++ [a]) i = if i < l.length then gd l i else if i = l.length then a else 0 := by
  simp only [gd, List.getD]
  by_cases h : i < l.length
  · rw [if_pos h, List.getElem?_append_left h]
  · rw [if_neg h, List.getElem?_append_right (by omega)]
    by_cases e : i = l.length
    · rw [if_pos e]; simp [e]
    · rw [if_neg e, List.getElem?_eq_none (by simp; omega)]; rfl

/-- How often a number stands in a list, as a sum. -/
theorem sumTo_count (l : List Nat) (p c : Nat) : sumTo (fun i => if gd l i = p then c else 0) l.length = l.count p * c := by
  have key : ∀ n, n ≤ l.length → sumTo (fun i => if gd l i = p then c else 0) n = (l.take n).count p * c := by
    intro n
    induction n with
    | zero => intro _; simp [sumTo]
    | succ n ih =>
      intro hn
      simp only [sumTo]
      rw [ih (by omega), List.take_succ_eq_append_getElem (by omega), List.count_append]
      have e : gd l n = l[n] := by simp [gd, List.getD, show n < l.length by omega]
      rw [e]
      by_cases h : l[n] = p
      · rw [if_pos h, h]; simp [Nat.add_mul]
      · rw [if_neg h]; simp [h]
  have := key l.length (Nat.le_refl _)
  rwa [List.take_length] at this

theorem gd_set (l : List Nat) (i j v : Nat) (hi : i < l.length) : gd (l.set i v) j = if j = i then v else gd l j := by
  simp only [gd, List.getD, List.getElem?_set]
  by_cases h : j = i
  · subst h; simp [hi]
  · rw [if_neg (fun e => h e.symm), if_neg h]

theorem count_set_nat (l : List Nat) (i v x : Nat) (hi : i < l.length) : (l.set i v).count x + (if gd l i = x then 1 else 0) = l.count x + (if v = x then 1 else 0) := by
  induction l generalizing i with
  | nil => simp at hi
  | cons a r ih =>
    cases i with
    | zero =>
      have e : gd (a :: r) 0 = a := rfl
      rw [e, List.set_cons_zero, List.count_cons, List.count_cons]
      by_cases h1 : a = x <;> by_cases h2 : v = x <;> simp [h1, h2]
    | succ i =>
      have := ih i (by simpa using hi)
      have e : gd (a :: r) (i + 1) = gd r i := rfl
      rw [e, List.set_cons_succ, List.count_cons, List.count_cons]
      omega

/-- A tree as its nodes tell it: of each node the one above it; D tells how deep each lies. -/
structure Tree (n : Nat) (ab D : List Nat) : Prop where
  n0 : 0 < n
  len : n < ab.length
  par : ∀ i, i < ab.length → gd ab i = 0 ∨ (n ≤ gd ab i ∧ i < gd ab i ∧ gd ab i < ab.length)
  inner : ∀ i, n ≤ i → i + 1 < ab.length → gd ab i ≠ 0
  two : ∀ p, n ≤ p → p < ab.length → ab.count p = 2
  last : gd D (ab.length - 1) = 0
  deep : ∀ i, i + 1 < ab.length → gd D i = if gd ab i = 0 then 0 else gd D (gd ab i) + 1

/-- Of each node's children both lie one deeper. -/
theorem Tree.child {n : Nat} {ab D : List Nat} (t : Tree n ab D) (p : Nat) (h1 : n ≤ p) (h2 : p < ab.length) : ∃ i, i < p ∧ gd ab i = p ∧ gd D i = gd D p + 1 := by
  have hc := t.two p h1 h2
  have hm : p ∈ ab := List.count_pos_iff.1 (by omega)
  obtain ⟨i, hi, he⟩ := List.getElem_of_mem hm
  have e : gd ab i = p := by simp [gd, List.getD, hi, he]
  have hn0 := t.n0
  rcases t.par i hi with h | ⟨_, h4, h5⟩
  · omega
  · refine ⟨i, by omega, e, ?_⟩
    rw [t.deep i (by omega), if_neg (by omega), e]

theorem Tree.le {n : Nat} {ab D : List Nat} (t : Tree n ab D) (M : Nat) (h : ∀ i, i < n → gd D i ≤ M) (p : Nat) (hp : p < ab.length) : gd D p ≤ M := by
  induction p using Nat.strongRecOn with
  | ind p ih =>
    by_cases hn : p < n
    · exact h p hn
    · obtain ⟨i, h1, _, h3⟩ := t.child p (by omega) hp
      have := ih i h1 (by omega)
      omega

/-- Of all leaves 2 to the power of minus their depths add up to one. -/
theorem Tree.kraft {n : Nat} {ab D : List Nat} (t : Tree n ab D) (M : Nat) (h : ∀ i, i < n → gd D i ≤ M) : sumTo (fun i => if gd D i = 0 then 0 else 2 ^ (M - gd D i)) n = 2 ^ M := by
  have hn0 := t.n0
  have hlen := t.len
  have hle := t.le M h
  let K : Nat → Nat := fun p => sumTo (fun i => if i < p ∧ p ≤ gd ab i then 2 ^ (M - gd D i) else 0) ab.length
  have pw : ∀ p, n ≤ p → p < ab.length → 2 ^ (M - gd D p) = 2 * 2 ^ (M - (gd D p + 1)) := by
    intro p h1 h2
    obtain ⟨i, h3, _, h5⟩ := t.child p h1 h2
    have := hle i (by omega)
    rw [show M - gd D p = M - (gd D p + 1) + 1 by omega, Nat.pow_succ, Nat.mul_comm]
  have dch : ∀ p i, n ≤ p → i < ab.length → gd ab i = p → gd D i = gd D p + 1 := by
    intro p i h1 h2 h3
    rcases t.par i h2 with h4 | ⟨_, h4, h5⟩
    · omega
    · rw [t.deep i (by omega), if_neg (by omega), h3]
  have top : K (ab.length - 1) = 2 ^ M := by
    have e : K (ab.length - 1) = sumTo (fun i => if gd ab i = ab.length - 1 then 2 ^ (M - (gd D (ab.length - 1) + 1)) else 0) ab.length := by
      refine sumTo_congr _ _ _ fun i hi => ?_
      by_cases h1 : gd ab i = ab.length - 1
      · have h2 := dch _ i (by omega) hi h1
        rcases t.par i hi with h3 | ⟨_, h3, h4⟩
        · omega
        · rw [if_pos ⟨by omega, by omega⟩, if_pos h1, h2]
      · rw [if_neg h1, if_neg (fun h2 => ?_)]
        rcases t.par i hi with h3 | ⟨_, h3, h4⟩ <;> omega
    rw [e, sumTo_count, t.two _ (by omega) (by omega), ← pw _ (by omega) (by omega), t.last]
    rfl
  have step : ∀ p, n ≤ p → p + 1 < ab.length → K p = K (p + 1) := by
    intro p h1 h2
    have e : sumTo (fun i => (if i < p ∧ p ≤ gd ab i then 2 ^ (M - gd D i) else 0) + (if i = p then 2 ^ (M - gd D p) else 0)) ab.length
        = sumTo (fun i => (if i < p + 1 ∧ p + 1 ≤ gd ab i then 2 ^ (M - gd D i) else 0) + (if gd ab i = p then 2 ^ (M - (gd D p + 1)) else 0)) ab.length := by
      refine sumTo_congr _ _ _ fun i hi => ?_
      by_cases c1 : i = p
      · subst c1
        have h3 := t.inner i h1 h2
        rcases t.par i hi with h4 | ⟨_, h4, h5⟩
        · omega
        · rw [if_neg (by omega), if_pos rfl, if_pos ⟨by omega, by omega⟩, if_neg (by omega)]; omega
      · rw [if_neg c1]
        by_cases c2 : gd ab i = p
        · have h3 := dch p i h1 hi c2
          rcases t.par i hi with h4 | ⟨_, h4, h5⟩
          · omega
          · rw [if_pos ⟨by omega, by omega⟩, if_neg (by omega), if_pos c2, h3]; omega
        · rw [if_neg c2]
          by_cases c3 : i < p ∧ p ≤ gd ab i
          · rw [if_pos c3, if_pos ⟨by omega, by omega⟩]
          · rw [if_neg c3, if_neg (by omega)]
    rw [sumTo_add, sumTo_add, sumTo_one, if_pos (by omega), sumTo_count, t.two p h1 (by omega), ← pw p h1 (by omega)] at e
    show sumTo _ _ = sumTo _ _
    omega
  have all : ∀ k, n + k < ab.length → K (n + k) = K n := by
    intro k
    induction k with
    | zero => intro _; rfl
    | succ k ih => intro hk; rw [← ih (by omega), step (n + k) (by omega) (by omega)]; rfl
  have hb := all (ab.length - 1 - n) (by omega)
  rw [show n + (ab.length - 1 - n) = ab.length - 1 by omega, top] at hb
  rw [hb]
  show _ = sumTo _ _
  rw [sumTo_ext _ n ab.length (by omega) (fun i h1 _ => by rw [if_neg (by omega)])]
  refine sumTo_congr _ _ _ fun i hi => ?_
  rw [t.deep i (by omega)]
  by_cases c : gd ab i = 0
  · rw [if_pos c, if_pos rfl, if_neg (by omega)]
  · rcases t.par i (by omega) with h4 | ⟨h6, h4, h5⟩
    · omega
    · rw [if_neg c, if_neg (by omega), if_pos ⟨hi, h6⟩]

end Go.Proofs.YtdpobjgfnhjagaaDoor

namespace Go.Proofs.YtdpobjgfnhjagaaDoor

def fibo : Nat → Nat
  | 0 => 1
  | 1 => 1
  | n + 2 => fibo (n + 1) + fibo n

theorem fibo_pos (n : Nat) : 1 ≤ fibo n ∧ fibo n ≤ fibo (n + 1) := by
  induction n with
  | zero => exact ⟨Nat.le_refl _, Nat.le_refl _⟩
  | succ n ih => exact ⟨by omega, by show fibo (n + 1) ≤ fibo (n + 1) + fibo n; omega⟩
theorem fibo_mono (m k : Nat) : fibo m ≤ fibo (m + k) := by
  induction k with
  | zero => exact Nat.le_refl _
  | succ k ih => exact Nat.le_trans ih (fibo_pos (m + k)).2

/-- How many of the weights are not 0. -/
def posN (ws : List Nat) : Nat := sumTo (fun i => if gd ws i = 0 then 0 else 1) ws.length

/-- The heap of the first k symbols that come. -/
def iniH (ws : List Nat) : Nat → List Nd
  | 0 => []
  | k + 1 => if 0 < gd ws k then pushL (iniH ws k) (gd ws k, k) else iniH ws k

/-- Two nodes are put together. -/
def mrgA (ab : List Nat) (H : List Nd) : List Nat := ((ab.set (nd H 0).2 ab.length).set (nd (popL H) 0).2 ab.length) ++ [0]
def mrgH (ab : List Nat) (H : List Nd) : List Nd := pushL (popL (popL H)) ((nd H 0).1 + (nd (popL H) 0).1, ab.length)

structure TI (ws ab : List Nat) (H : List Nd) (ht : Nat → Nat) (lm : Nat) : Prop where
  n0 : 0 < ws.length
  hp : HpOk H
  len : ws.length ≤ ab.length
  nums : ∀ k, (H.map Prod.snd).count k = if k < ab.length ∧ gd ab k = 0 ∧ (ws.length ≤ k ∨ 0 < gd ws k) then 1 else 0
  par : ∀ i, i < ab.length → gd ab i = 0 ∨ (ws.length ≤ gd ab i ∧ i < gd ab i ∧ gd ab i < ab.length)
  zero : ∀ i, i < ws.length → gd ws i = 0 → gd ab i = 0
  two : ∀ p, ws.length ≤ p → p < ab.length → ab.count p = 2
  wt : (H.map Prod.fst).sum = ws.sum
  fib : ∀ x ∈ H, fibo (ht x.2 + 1) ≤ x.1
  low : ∀ x ∈ H, lm ≤ x.1 ∧ (0 < ht x.2 → fibo (ht x.2) ≤ lm)
  edge : ∀ i, i < ab.length → gd ab i ≠ 0 → ht i + 1 ≤ ht (gd ab i)
  hts : ∀ x ∈ H, ht x.2 ≤ ab.length - ws.length
  cnt : H.length + (ab.length - ws.length) = posN ws

theorem TI.mem {ws ab : List Nat} {H : List Nd} {ht : Nat → Nat} {lm : Nat} (t : TI ws ab H ht lm) {x : Nd} (hx : x ∈ H) : x.2 < ab.length ∧ gd ab x.2 = 0 ∧ (ws.length ≤ x.2 ∨ 0 < gd ws x.2) := by
  have h1 : 0 < (H.map Prod.snd).count x.2 := List.count_pos_iff.2 (List.mem_map_of_mem hx)
  rw [t.nums] at h1
  by_cases c : x.2 < ab.length ∧ gd ab x.2 = 0 ∧ (ws.length ≤ x.2 ∨ 0 < gd ws x.2)
  · exact c
  · rw [if_neg c] at h1; omega

theorem nd_mem (l : List Nd) (h : 0 < l.length) : nd l 0 ∈ l := by
  cases l with
  | nil => simp at h
  | cons a r => simp [nd]

theorem TI.step {ws ab : List Nat} {H : List Nd} {ht : Nat → Nat} {lm : Nat} (t : TI ws ab H ht lm) (h2 : 2 ≤ H.length) : ∃ ht' lm', TI ws (mrgA ab H) (mrgH ab H) ht' lm' := by
  obtain ⟨l1, p1, q1, m1⟩ := pop_length H (by intro e; simp [e] at h2) t.hp
  obtain ⟨l2, p2, q2, m2⟩ := pop_length (popL H) (by intro e; simp [e] at l1; omega) p1
  unfold mrgA mrgH
  have hb1 : nd (popL H) 0 ∈ popL H := nd_mem _ (by omega)
  generalize nd H 0 = a at *
  generalize nd (popL H) 0 = b at *
  generalize popL H = H1 at *
  generalize popL H1 = H2 at *
  obtain ⟨p3, q3⟩ := push_spec H2 (a.1 + b.1, ab.length) p2
  generalize pushL H2 (a.1 + b.1, ab.length) = H3 at *
  have qab : H.Perm (a :: b :: H2) := q1.trans (q2.cons a)
  have haH : a ∈ H := qab.symm.subset (by simp)
  have hbH : b ∈ H := qab.symm.subset (by simp)
  have h2H : ∀ x ∈ H2, x ∈ H := fun x hx => qab.symm.subset (by simp [hx])
  obtain ⟨ma1, ma2, ma3⟩ := t.mem haH
  obtain ⟨mb1, mb2, mb3⟩ := t.mem hbH
  have hcnt : ∀ k, (H.map Prod.snd).count k = (if a.2 = k then 1 else 0) + (if b.2 = k then 1 else 0) + (H2.map Prod.snd).count k := by
    intro k
    rw [(qab.map Prod.snd).count_eq]
    simp only [List.map_cons, List.count_cons, beq_iff_eq]
    omega
  have hcnt3 : ∀ k, (H3.map Prod.snd).count k = (if ab.length = k then 1 else 0) + (H2.map Prod.snd).count k := by
    intro k
    rw [(q3.map Prod.snd).count_eq]
    simp only [List.map_cons, List.count_cons, beq_iff_eq]
    omega
  have hne : a.2 ≠ b.2 := by
    intro e
    have h3 := hcnt a.2
    rw [t.nums, if_pos ⟨ma1, ma2, ma3⟩, if_pos rfl, if_pos e.symm] at h3
    omega
  have hab1 : a.1 ≤ b.1 := by
    have := (ndLt_not _ _).1 (m1 b hb1)
    omega
  have hb2 : ∀ x ∈ H2, b.1 ≤ x.1 := fun x hx => by
    have := (ndLt_not _ _).1 (m2 x hx)
    omega
  obtain ⟨A, hA⟩ : ∃ A, ((ab.set a.2 ab.length).set b.2 ab.length) ++ [0] = A := ⟨_, rfl⟩
  have hAl : A.length = ab.length + 1 := by rw [← hA]; simp
  have hAg : ∀ k, gd A k = if k < ab.length then (if k = b.2 then ab.length else if k = a.2 then ab.length else gd ab k) else 0 := by
    intro k
    rw [← hA, gd_snoc]
    simp only [List.length_set]
    by_cases c : k < ab.length
    · rw [if_pos c, if_pos c, gd_set _ _ _ _ (by simpa using mb1), gd_set _ _ _ _ ma1]
    · rw [if_neg c, if_neg c]; split <;> rfl
  have hAc : ∀ p, p ≠ 0 → A.count p = ab.count p + (if p = ab.length then 2 else 0) := by
    intro p hp
    have c1 := count_set_nat (ab.set a.2 ab.length) b.2 ab.length p (by simpa using mb1)
    have c2 := count_set_nat ab a.2 ab.length p ma1
    rw [gd_set _ _ _ _ ma1, if_neg (show ¬ b.2 = a.2 from fun e => hne e.symm), mb2, if_neg (show ¬ 0 = p from fun e => hp e.symm)] at c1
    rw [ma2, if_neg (show ¬ 0 = p from fun e => hp e.symm)] at c2
    rw [← hA, List.count_append]
    have c3 : ([0] : List Nat).count p = 0 := by simp [List.count_singleton]; omega
    rw [c3]
    by_cases e : p = ab.length
    · rw [if_pos e]; rw [if_pos e.symm] at c1 c2; omega
    · rw [if_neg e]; rw [if_neg (fun x => e x.symm)] at c1 c2; omega
  have hNc : ab.count ab.length = 0 := by
    rw [List.count_eq_zero]
    intro hm
    obtain ⟨i, hi, he⟩ := List.getElem_of_mem hm
    have e : gd ab i = ab.length := by simp [gd, List.getD, hi, he]
    rcases t.par i hi with h3 | ⟨_, _, h3⟩ <;> omega
  rw [hA]
  let hn : Nat → Nat := fun k => if k = ab.length then 1 + max (ht a.2) (ht b.2) else ht k
  have hno : ∀ k, k < ab.length → hn k = ht k := fun k hk => if_neg (by omega)
  have hnn : hn ab.length = 1 + max (ht a.2) (ht b.2) := if_pos rfl
  have fa := t.fib a haH
  have fb := t.fib b hbH
  have la := t.low a haH
  have lb := t.low b hbH
  have hlen := t.len
  have mem3 : ∀ x, x ∈ H3 → x = (a.1 + b.1, ab.length) ∨ x ∈ H2 := fun x hx => List.mem_cons.1 (q3.subset hx)
  refine ⟨hn, b.1, t.n0, p3, by omega, ?_, ?_, ?_, ?_, ?_, ?_, ?_, ?_, ?_, ?_⟩
  · intro k
    have h3 := hcnt k
    rw [t.nums] at h3
    rw [hcnt3, hAl, hAg]
    by_cases c1 : k = ab.length
    · subst c1
      rw [if_pos rfl]
      rw [if_neg (by omega)] at h3
      rw [if_pos ⟨by omega, by simp, Or.inl hlen⟩]
      omega
    · rw [if_neg (fun e => c1 e.symm)]
      by_cases c2 : k = a.2
      · subst c2
        rw [if_pos ⟨ma1, ma2, ma3⟩, if_pos rfl] at h3
        rw [if_neg (by rw [if_pos ma1, if_neg hne, if_pos rfl]; omega)]
        omega
      · by_cases c3 : k = b.2
        · subst c3
          rw [if_pos ⟨mb1, mb2, mb3⟩, if_pos rfl] at h3
          rw [if_neg (by rw [if_pos mb1, if_pos rfl]; omega)]
          omega
        · rw [if_neg (show ¬ a.2 = k from fun e => c2 e.symm), if_neg (show ¬ b.2 = k from fun e => c3 e.symm)] at h3
          by_cases c4 : k < ab.length
          · rw [if_pos c4, if_neg c3, if_neg c2]
            by_cases c5 : gd ab k = 0 ∧ (ws.length ≤ k ∨ 0 < gd ws k)
            · rw [if_pos ⟨by omega, c5⟩]; rw [if_pos ⟨c4, c5⟩] at h3; omega
            · rw [if_neg (fun e => c5 e.2)]; rw [if_neg (fun e => c5 e.2)] at h3; omega
          · rw [if_neg (by omega)] at h3
            rw [if_neg (by omega)]; omega
  · intro i hi
    rw [hAl] at hi
    rw [hAg, hAl]
    by_cases c : i < ab.length
    · rw [if_pos c]
      by_cases c1 : i = b.2
      · rw [if_pos c1]; right; omega
      · rw [if_neg c1]
        by_cases c2 : i = a.2
        · rw [if_pos c2]; right; omega
        · rw [if_neg c2]
          rcases t.par i c with h3 | h3
          · exact Or.inl h3
          · right; omega
    · rw [if_neg c]; exact Or.inl rfl
  · intro i hi hz
    have h3 := t.zero i hi hz
    rw [hAg, if_pos (by omega)]
    rw [if_neg (by rintro rfl; omega), if_neg (by rintro rfl; omega)]
    exact h3
  · intro p hp1 hp2
    rw [hAl] at hp2
    have hp0 : p ≠ 0 := by have := t.n0; omega
    rw [hAc p hp0]
    by_cases c : p = ab.length
    · rw [if_pos c, c, hNc]
    · rw [if_neg c, t.two p hp1 (by omega)]
  · have h3 := (q3.map Prod.fst).sum_nat
    have h4 := (qab.map Prod.fst).sum_nat
    simp only [List.map_cons, List.sum_cons] at h3 h4
    rw [h3, ← t.wt, h4]
    omega
  · intro x hx
    rcases mem3 x hx with rfl | h3
    · show fibo (hn ab.length + 1) ≤ a.1 + b.1
      rw [hnn]
      have e : ∀ m, fibo (1 + m + 1) = fibo (m + 1) + fibo m := fun m => by
        rw [show 1 + m + 1 = m + 2 by omega]; rfl
      rcases Nat.le_total (ht a.2) (ht b.2) with c | c
      · rw [Nat.max_eq_right c, e]
        have : fibo (ht b.2) ≤ a.1 := by
          by_cases c0 : 0 < ht b.2
          · have := lb.2 c0; omega
          · rw [show ht b.2 = 0 by omega]
            have := (fibo_pos (ht a.2 + 1)).1
            show 1 ≤ a.1
            omega
        omega
      · rw [Nat.max_eq_left c, e]
        have : fibo (ht a.2) ≤ b.1 := by
          by_cases c0 : 0 < ht a.2
          · have := la.2 c0; omega
          · rw [show ht a.2 = 0 by omega]
            have := (fibo_pos (ht b.2 + 1)).1
            show 1 ≤ b.1
            omega
        omega
    · rw [hno _ (t.mem (h2H x h3)).1]
      exact t.fib x (h2H x h3)
  · intro x hx
    rcases mem3 x hx with rfl | h3
    · refine ⟨by show b.1 ≤ a.1 + b.1; omega, fun _ => ?_⟩
      show fibo (hn ab.length) ≤ b.1
      rw [hnn, Nat.add_comm]
      rcases Nat.le_total (ht a.2) (ht b.2) with c | c
      · rw [Nat.max_eq_right c]; exact fb
      · rw [Nat.max_eq_left c]; omega
    · rw [hno _ (t.mem (h2H x h3)).1]
      refine ⟨hb2 x h3, fun c => ?_⟩
      have := (t.low x (h2H x h3)).2 c
      omega
  · intro i hi hz
    rw [hAl] at hi
    rw [hAg] at hz ⊢
    by_cases c : i < ab.length
    · rw [if_pos c] at hz ⊢
      rw [hno i c]
      by_cases c1 : i = b.2
      · rw [if_pos c1, hnn, c1]; omega
      · rw [if_neg c1] at hz ⊢
        by_cases c2 : i = a.2
        · rw [if_pos c2, hnn, c2]; omega
        · rw [if_neg c2] at hz ⊢
          rcases t.par i c with h3 | ⟨_, _, h3⟩
          · exact absurd h3 hz
          · rw [hno _ h3]
            exact t.edge i c hz
    · rw [if_neg c] at hz; exact absurd rfl hz
  · intro x hx
    rw [hAl]
    have h5 := t.hts a haH
    have h6 := t.hts b hbH
    rcases mem3 x hx with rfl | h3
    · show hn ab.length ≤ _
      rw [hnn]; omega
    · rw [hno _ (t.mem (h2H x h3)).1]
      have := t.hts x (h2H x h3)
      omega
  · have h3 := q3.length_eq
    simp only [List.length_cons] at h3
    have := t.cnt
    rw [hAl]; omega

end Go.Proofs.YtdpobjgfnhjagaaDoor

namespace Go.Proofs.YtdpobjgfnhjagaaDoor

theorem gd_big (l : List Nat) (i : Nat) (h : l.length ≤ i) : gd l i = 0 := by
  simp [gd, List.getD, List.getElem?_eq_none h]

theorem ini_spec (ws : List Nat) (k : Nat) (hk : k ≤ ws.length) : HpOk (iniH ws k) ∧ (∀ j, ((iniH ws k).map Prod.snd).count j = if j < k ∧ 0 < gd ws j then 1 else 0) ∧ ((iniH ws k).map Prod.fst).sum = (ws.take k).sum ∧ (iniH ws k).length = sumTo (fun i => if gd ws i = 0 then 0 else 1) k ∧ (∀ x ∈ iniH ws k, 1 ≤ x.1) := by
  induction k with
  | zero => exact ⟨fun j _ h => by simp [iniH] at h, fun j => by simp [iniH], rfl, rfl, fun x hx => by simp [iniH] at hx⟩
  | succ k ih =>
    obtain ⟨h1, h2, h3, h4, h5⟩ := ih (by omega)
    have e : gd ws k = ws[k] := by simp [gd, List.getD, show k < ws.length by omega]
    have hs : (ws.take (k + 1)).sum = (ws.take k).sum + gd ws k := by
      rw [List.take_succ_eq_append_getElem (by omega), List.sum_append, e]; simp
    simp only [iniH, sumTo]
    by_cases hp : 0 < gd ws k
    · rw [if_pos hp]
      obtain ⟨p1, p2⟩ := push_spec (iniH ws k) (gd ws k, k) h1
      refine ⟨p1, fun j => ?_, ?_, ?_, fun x hx => ?_⟩
      · rw [(p2.map Prod.snd).count_eq]
        simp only [List.map_cons, List.count_cons, beq_iff_eq]
        rw [h2 j]
        by_cases c : k = j
        · subst c
          rw [if_neg (by omega), if_pos rfl, if_pos ⟨by omega, hp⟩]
        · rw [if_neg c]
          by_cases c2 : j < k ∧ 0 < gd ws j
          · rw [if_pos c2, if_pos ⟨by omega, c2.2⟩]
          · rw [if_neg c2, if_neg (fun q => c2 ⟨by omega, q.2⟩)]
      · have := (p2.map Prod.fst).sum_nat
        simp only [List.map_cons, List.sum_cons] at this
        rw [this, hs, h3]; omega
      · have := p2.length_eq
        simp only [List.length_cons] at this
        rw [this, h4, if_neg (by omega)]
      · rcases List.mem_cons.1 (p2.subset hx) with rfl | h
        · exact hp
        · exact h5 x h
    · rw [if_neg hp]
      refine ⟨h1, fun j => ?_, ?_, ?_, h5⟩
      · rw [h2 j]
        by_cases c2 : j < k ∧ 0 < gd ws j
        · rw [if_pos c2, if_pos ⟨by omega, c2.2⟩]
        · rw [if_neg c2, if_neg (fun q => c2 ⟨by
            rcases Nat.lt_or_ge j k with h | h
            · exact h
            · have : j = k := by omega
              subst this
              exact absurd q.2 hp, q.2⟩)]
      · rw [h3, hs]; omega
      · rw [h4, if_pos (by omega)]; rfl

theorem gd_replicate (n i : Nat) : gd (List.replicate n 0) i = 0 := by
  simp only [gd, List.getD, List.getElem?_replicate]
  split <;> rfl

theorem TI.init (ws : List Nat) (h : 0 < ws.length) : TI ws (List.replicate ws.length 0) (iniH ws ws.length) (fun _ => 0) 0 := by
  obtain ⟨h1, h2, h3, h4, h5⟩ := ini_spec ws ws.length (Nat.le_refl _)
  rw [List.take_length] at h3
  refine ⟨h, h1, by simp, fun k => ?_, fun i _ => Or.inl (gd_replicate _ _), fun i _ _ => gd_replicate _ _, fun p q1 q2 => ?_, h3, fun x hx => h5 x hx, fun x hx => ⟨by omega, fun q => by omega⟩, fun i _ q => absurd (gd_replicate _ _) q, fun x _ => by omega, ?_⟩
  · rw [h2, gd_replicate, List.length_replicate]
    by_cases c : k < ws.length ∧ 0 < gd ws k
    · rw [if_pos c, if_pos ⟨c.1, rfl, Or.inr c.2⟩]
    · rw [if_neg c, if_neg (fun q => c ⟨q.1, by rcases q.2.2 with q3 | q3 <;> omega⟩)]
  · rw [List.length_replicate] at q2; omega
  · rw [h4, List.length_replicate, Nat.sub_self]; rfl

/-- The nodes above, as the program makes them. -/
def trGo : Nat → List Nat → List Nd → List Nat
  | 0, ab, _ => ab
  | f + 1, ab, H => if 1 < H.length then trGo f (mrgA ab H) (mrgH ab H) else ab
def treeL (ws : List Nat) : List Nat :=
  if (iniH ws ws.length).length = 1 then (List.replicate ws.length 0).set (nd (iniH ws ws.length) 0).2 ws.length ++ [0] else trGo (iniH ws ws.length).length (List.replicate ws.length 0) (iniH ws ws.length)

/-- What lies behind the loop. -/
theorem TI.run {ws : List Nat} (f : Nat) : ∀ {ab : List Nat} {H : List Nd} {ht : Nat → Nat} {lm : Nat}, TI ws ab H ht lm → H.length ≤ f → 1 ≤ H.length → ∃ H' ht' lm', TI ws (trGo f ab H) H' ht' lm' ∧ H'.length = 1 := by
  induction f with
  | zero => intro ab H ht lm _ h1 h2; omega
  | succ f ih =>
    intro ab H ht lm t h1 h2
    simp only [trGo]
    by_cases c : 1 < H.length
    · rw [if_pos c]
      obtain ⟨ht', lm', t'⟩ := t.step (by omega)
      have hl : (mrgH ab H).length + 1 = H.length := by
        have e1 := t.cnt
        have e2 := t'.cnt
        have e3 := t.len
        have e4 : (mrgA ab H).length = ab.length + 1 := by simp [mrgA]
        omega
      exact ih t' (by omega) (by omega)
    · rw [if_neg c]
      exact ⟨H, ht, lm, t, by omega⟩

/-- How deep each node lies: D is what the program makes out of the nodes above. -/
def DeepOf (ab D : List Nat) : Prop := D.length = ab.length ∧ gd D (ab.length - 1) = 0 ∧ ∀ i, i + 1 < ab.length → gd D i = if gd ab i = 0 then 0 else gd D (gd ab i) + 1

structure DepOk (ws lens : List Nat) : Prop where
  len : lens.length = ws.length
  pos : ∀ i, i < ws.length → (gd lens i = 0 ↔ gd ws i = 0)
  one : posN ws = 1 → ∀ i, i < ws.length → gd lens i ≤ 1
  kraft : 2 ≤ posN ws → ∀ M, (∀ i, i < ws.length → gd lens i ≤ M) → sumTo (fun i => if gd lens i = 0 then 0 else 2 ^ (M - gd lens i)) ws.length = 2 ^ M
  le : 2 ≤ posN ws → ∃ h, (∀ i, i < ws.length → gd lens i ≤ h) ∧ fibo (h + 1) ≤ ws.sum ∧ h + 1 ≤ posN ws

theorem gd_takeN (l : List Nat) (n i : Nat) (h : i < n) : gd (l.take n) i = gd l i := by
  simp only [gd, List.getD, List.getElem?_take, if_pos h]

theorem TI.done {ws ab : List Nat} {H : List Nd} {ht : Nat → Nat} {lm : Nat} (t : TI ws ab H ht lm) (h1 : H.length = 1) (h2 : 2 ≤ posN ws) (D : List Nat) (hD : DeepOf ab D) : DepOk ws (D.take ws.length) := by
  obtain ⟨d1, d2, d3⟩ := hD
  have hc := t.cnt
  have hl := t.len
  obtain ⟨r, hr⟩ : ∃ r, H = [r] := by
    cases H with
    | nil => simp at h1
    | cons a q =>
      cases q with
      | nil => exact ⟨a, rfl⟩
      | cons b q => simp at h1
  subst hr
  have hroot : gd ab (ab.length - 1) = 0 := by
    rcases t.par (ab.length - 1) (by omega) with h3 | h3
    · exact h3
    · omega
  have only : ∀ k, k < ab.length → gd ab k = 0 → (ws.length ≤ k ∨ 0 < gd ws k) → k = r.2 := by
    intro k q1 q2 q3
    have := t.nums k
    rw [if_pos ⟨q1, q2, q3⟩] at this
    simp only [List.map_cons, List.map_nil, List.count_cons, List.count_nil, beq_iff_eq] at this
    by_cases c : r.2 = k
    · exact c.symm
    · rw [if_neg c] at this; omega
  have hr2 : r.2 = ab.length - 1 := (only _ (by omega) hroot (Or.inl (by omega))).symm
  have T : Tree ws.length ab D := by
    refine ⟨t.n0, by omega, t.par, fun i q1 q2 e => ?_, t.two, d2, d3⟩
    have := only i (by omega) e (Or.inl q1)
    omega
  have hdep : ∀ k i, i + k + 1 = ab.length → gd ab i ≠ 0 ∨ i + 1 = ab.length → gd D i + ht i ≤ ht r.2 := by
    intro k
    induction k using Nat.strongRecOn with
    | ind k ih =>
      intro i e hi
      by_cases c : i + 1 = ab.length
      · rw [show i = ab.length - 1 by omega, d2, hr2]; omega
      · have hz := hi.resolve_right c
        rcases t.par i (by omega) with h3 | ⟨h3, h4, h5⟩
        · exact absurd h3 hz
        · have hin : gd ab (gd ab i) ≠ 0 ∨ gd ab i + 1 = ab.length := by
            by_cases c2 : gd ab i + 1 = ab.length
            · exact Or.inr c2
            · exact Or.inl (T.inner _ h3 (by omega))
          have h6 := ih (ab.length - 1 - gd ab i) (by omega) (gd ab i) (by omega) hin
          have h7 := t.edge i (by omega) hz
          rw [d3 i (by omega), if_neg hz]
          omega
  have hg : ∀ i, i < ws.length → gd (D.take ws.length) i = gd D i := fun i hi => gd_takeN D _ i hi
  have hzero : ∀ i, i < ws.length → (gd D i = 0 ↔ gd ws i = 0) := by
    intro i hi
    rw [d3 i (by omega)]
    by_cases c : gd ab i = 0
    · rw [if_pos c]
      refine ⟨fun _ => ?_, fun _ => rfl⟩
      rcases Nat.eq_zero_or_pos (gd ws i) with h3 | h3
      · exact h3
      · have := only i (by omega) c (Or.inr h3)
        omega
    · rw [if_neg c]
      exact ⟨fun e => by omega, fun e => absurd (t.zero i hi e) c⟩
  refine ⟨by simp; omega, fun i hi => by rw [hg i hi]; exact hzero i hi, fun e => by omega, fun _ M hM => ?_, fun _ => ⟨ht r.2, fun i hi => ?_, ?_, ?_⟩⟩
  · rw [← T.kraft M (fun i hi => by rw [← hg i hi]; exact hM i hi)]
    exact sumTo_congr _ _ _ fun i hi => by rw [hg i hi]
  · rw [hg i hi]
    by_cases c : gd ab i = 0
    · rw [d3 i (by omega), if_pos c]; omega
    · have := hdep (ab.length - 1 - i) i (by omega) (Or.inl c)
      omega
  · have h3 := t.fib r (by simp)
    have h4 := t.wt
    simp only [List.map_cons, List.map_nil, List.sum_cons, List.sum_nil] at h4
    omega
  · have := t.hts r (by simp)
    simp only [List.length_cons, List.length_nil] at hc
    omega

/-- The lengths that come out of the weights. -/
theorem depths_spec (ws : List Nat) (h0 : 0 < ws.length) (D : List Nat) (hD : DeepOf (treeL ws) D) : DepOk ws (D.take ws.length) := by
  obtain ⟨i1, i2, i3, i4, i5⟩ := ini_spec ws ws.length (Nat.le_refl _)
  have hposN : (iniH ws ws.length).length = posN ws := i4
  have t0 := TI.init ws h0
  unfold treeL at hD
  by_cases c1 : (iniH ws ws.length).length = 1
  · rw [if_pos c1] at hD
    have hm := nd_mem (iniH ws ws.length) (by omega)
    obtain ⟨m1, _, m3⟩ := t0.mem hm
    rw [List.length_replicate] at m1
    have hcn := i2
    generalize nd (iniH ws ws.length) 0 = r at *
    have m4 : 0 < gd ws r.2 := by rcases m3 with h | h <;> omega
    obtain ⟨d1, d2, d3⟩ := hD
    have hal : ((List.replicate ws.length 0).set r.2 ws.length ++ [0]).length = ws.length + 1 := by simp
    have hag : ∀ k, k < ws.length → gd ((List.replicate ws.length 0).set r.2 ws.length ++ [0]) k = if k = r.2 then ws.length else 0 := by
      intro k hk
      rw [gd_snoc]
      simp only [List.length_set, List.length_replicate]
      rw [if_pos hk, gd_set _ _ _ _ (by simpa using m1), gd_replicate]
    rw [hal] at d1 d2 d3
    have hd : ∀ k, k < ws.length → gd D k = if k = r.2 then 1 else 0 := by
      intro k hk
      rw [d3 k (by omega), hag k hk]
      by_cases e : k = r.2
      · rw [if_pos e, if_pos e, if_neg (by omega)]
        rw [show ws.length + 1 - 1 = ws.length by omega] at d2
        rw [d2]
      · rw [if_neg e, if_neg e, if_pos rfl]
    have hone : ∀ k, k < ws.length → 0 < gd ws k → k = r.2 := by
      intro k hk hp
      have := hcn k
      rw [if_pos ⟨hk, hp⟩] at this
      have h3 := hcn r.2
      rw [if_pos ⟨m1, m4⟩] at h3
      obtain ⟨a, ha⟩ : ∃ a, iniH ws ws.length = [a] := by
        match hq : iniH ws ws.length, c1 with
        | [a], _ => exact ⟨a, rfl⟩
      rw [ha] at this h3
      simp only [List.map_cons, List.map_nil, List.count_cons, List.count_nil, beq_iff_eq] at this h3
      by_cases e1 : a.2 = k
      · by_cases e2 : a.2 = r.2
        · omega
        · rw [if_neg e2] at h3; omega
      · rw [if_neg e1] at this; omega
    have hg : ∀ i, i < ws.length → gd (D.take ws.length) i = gd D i := fun i hi => gd_takeN D _ i hi
    refine ⟨by simp; omega, fun i hi => ?_, fun _ i hi => ?_, fun e => by omega, fun e => by omega⟩
    · rw [hg i hi, hd i hi]
      by_cases e : i = r.2
      · rw [if_pos e, e]; omega
      · rw [if_neg e]
        refine ⟨fun _ => ?_, fun _ => rfl⟩
        rcases Nat.eq_zero_or_pos (gd ws i) with h3 | h3
        · exact h3
        · exact absurd (hone i hi h3) e
    · rw [hg i hi, hd i hi]; split <;> omega
  · rw [if_neg c1] at hD
    by_cases c2 : (iniH ws ws.length).length = 0
    · rw [c2] at hD
      simp only [trGo] at hD
      obtain ⟨d1, d2, d3⟩ := hD
      rw [List.length_replicate] at d1 d2 d3
      have hz : ∀ i, i < ws.length → gd D i = 0 := by
        intro i hi
        by_cases e : i + 1 < ws.length
        · rw [d3 i e, if_pos (gd_replicate _ _)]
        · rw [show i = ws.length - 1 by omega]; exact d2
      have hg : ∀ i, i < ws.length → gd (D.take ws.length) i = gd D i := fun i hi => gd_takeN D _ i hi
      refine ⟨by simp; omega, fun i hi => ?_, fun e => by omega, fun e => by omega, fun e => by omega⟩
      rw [hg i hi, hz i hi]
      refine ⟨fun _ => ?_, fun _ => rfl⟩
      rcases Nat.eq_zero_or_pos (gd ws i) with h3 | h3
      · exact h3
      · have := i2 i
        rw [if_pos ⟨hi, h3⟩, List.length_eq_zero_iff.1 c2] at this
        simp at this
    · obtain ⟨H', ht', lm', t', e⟩ := TI.run _ t0 (Nat.le_refl _) (by omega)
      exact t'.done e (by omega) D hD

end Go.Proofs.YtdpobjgfnhjagaaDoor

namespace Go.Proofs.YtdpobjgfnhjagaaDoor
open Go.RowKit

/-- Numbers as values. -/
abbrev iv (L : List Nat) : List Value := (ni L).map (Value.int .i64)
theorem iv_length (L : List Nat) : (iv L).length = L.length := by simp [iv, ni]
theorem iv_set (L : List Nat) (i v : Nat) : (iv L).set i (.int .i64 (v : Int)) = iv (L.set i v) := by
  simp [iv, ni]
theorem iv_append (a b : List Nat) : iv (a ++ b) = iv a ++ iv b := by simp [iv, ni]

theorem HpAt.keep {B : Nat} {w w' : World} {l : List Nd} (h : HpAt B w l) (f : ∀ k arr t fr, B ≤ k → t ≠ 3 → w.heap[k]? = some (.cells arr t fr) → w'.heap[k]? = some (.cells arr t fr)) : HpAt B w' l := by
  obtain ⟨v, h1, h2⟩ := h
  refine ⟨v, f B _ _ _ (Nat.le_refl _) (by decide) h1, h2.1, ?_⟩
  rcases h2.2 with h3 | ⟨g, cap, cur, hv, hb, hh, r⟩
  · exact Or.inl h3
  · exact Or.inr ⟨g, cap, cur, hv, hb, f g _ _ _ (by omega) (by decide) hh, r⟩

theorem owns3_kt {B base n : Nat} {w w' : World} {v v0 : Value} {xs : List Value} (h : w.ownsRow base 3 1 v n xs) (hB : w.heap[B]? = some (.cells #[v0] 126 (0, 0))) (k : Kt 129 B w w') : w'.ownsRow base 3 1 v n xs := by
  refine ⟨h.1, ?_⟩
  rcases h.2 with h3 | ⟨g, cap, cur, hv, hb, hh, r⟩
  · exact Or.inl h3
  · refine Or.inr ⟨g, cap, cur, hv, hb, ?_, r⟩
    rcases Nat.lt_trichotomy g B with c | c | c
    · rw [k.below.block g c]; exact hh
    · subst c; rw [hh] at hB; simp at hB
    · exact k.other g _ _ _ c (by decide) hh

theorem owns3_set {base g n cap : Nat} {w : World} {L : List Nat} (h : w.ownsRow base 3 1 (.slice (some ⟨g, 0, none⟩) n cap) n (iv L)) (i v : Nat) : (w.setCell ⟨g, i, none⟩ (.int .i64 (v : Int))).ownsRow base 3 1 (.slice (some ⟨g, 0, none⟩) n cap) n (iv (L.set i v)) := by
  refine ⟨by have := h.1; rw [iv_length] at this ⊢; simpa using this, ?_⟩
  rcases h.2 with ⟨h3, _⟩ | ⟨g', cap', cur, hv, hb, hh, h4, h5, h6, h7⟩
  · cases h3
  · simp at hv
    obtain ⟨rfl, rfl⟩ := hv
    refine Or.inr ⟨g, cap, _, rfl, hb, heap_set hh i _, h4, h5, by simpa using h6, ?_⟩
    rw [← iv_set, ← h7]
    simp only [Array.toList_setIfInBounds, List.take_set]

theorem owns3_cell {base g n cap : Nat} {w : World} {L : List Nat} (h : w.ownsRow base 3 1 (.slice (some ⟨g, 0, none⟩) n cap) n (iv L)) (i : Nat) (hi : i < L.length) : w.cell? ⟨g, i, none⟩ = some (.int .i64 (gd L i : Int)) := by
  have := (IntsAt.of_owns h).cell i (by rw [ni_length]; exact hi)
  rw [ni_getD, Nat.zero_add] at this
  exact this
theorem owns3_free {base g n cap : Nat} {w : World} {xs : List Value} (h : w.ownsRow base 3 1 (.slice (some ⟨g, 0, none⟩) n cap) n xs) (i : Nat) : w.frozen? ⟨g, i, none⟩ = false := by
  rcases h.2 with ⟨h3, _⟩ | ⟨g', cap', cur, hv, hb, hh, r⟩
  · cases h3
  · simp at hv
    obtain ⟨rfl, rfl⟩ := hv
    exact free_of_heap hh i
theorem owns3_heap {base g n cap : Nat} {w : World} {xs : List Value} (h : w.ownsRow base 3 1 (.slice (some ⟨g, 0, none⟩) n cap) n xs) : ∃ cur, w.heap[g]? = some (.cells cur 3 (0, 0)) ∧ base ≤ g := by
  rcases h.2 with ⟨h3, _⟩ | ⟨g', cap', cur, hv, hb, hh, r⟩
  · cases h3
  · simp at hv
    obtain ⟨rfl, rfl⟩ := hv
    exact ⟨cur, hh, hb⟩
theorem made_iv (n : Nat) : (madeCells #[Value.int .i64 0] n).toList = iv (List.replicate n 0) := by
  apply List.ext_getElem
  · simp [madeCells, iv, ni]
  · intro i h1 h2
    simp [madeCells, iv, ni, Nat.mod_one]
theorem HpAt.var {B : Nat} {w : World} {l : List Nd} (h : HpAt B w l) : ∃ ao cp, w.heap[B]? = some (.cells #[.slice ao l.length cp] 126 (0, 0)) ∧ w.cell? ⟨B, 0, none⟩ = some (.slice ao l.length cp) := by
  obtain ⟨v, h1, h2⟩ := h
  obtain ⟨ao, cp, rfl⟩ := owns_slice h2
  exact ⟨ao, cp, h1, cell_of_heap h1 0⟩

theorem TI.ne {ws ab : List Nat} {H : List Nd} {ht : Nat → Nat} {lm : Nat} (t : TI ws ab H ht lm) (h2 : 2 ≤ H.length) : (nd H 0).2 ≠ (nd (popL H) 0).2 := by
  obtain ⟨l1, _, q1, _⟩ := pop_length H (by intro e; simp [e] at h2) t.hp
  have hb1 : nd (popL H) 0 ∈ popL H := nd_mem _ (by omega)
  have hm := t.mem (nd_mem H (by omega))
  intro e
  have h3 := t.nums (nd H 0).2
  rw [if_pos hm, (q1.map Prod.snd).count_eq] at h3
  simp only [List.map_cons, List.count_cons_self] at h3
  have h4 : 0 < ((popL H).map Prod.snd).count (nd H 0).2 := by
    rw [e]
    exact List.count_pos_iff.2 (List.mem_map_of_mem hb1)
  omega

theorem one_new {w : World} {k : Nat} (hk : k = w.heap.size) (a : Value) (t : TypeId) : ∀ j u, [a][j]? = some u → (w.alloc (.cells #[a] t)).cell? ((⟨k, 0, none⟩ : Addr).add j) = some u := by
  subst hk
  intro j u hj
  match j, hj with
  | 0, hj => simp at hj; subst hj; simp [Addr.add]

theorem iniH_le (ws : List Nat) (k : Nat) (hk : k ≤ ws.length) : (iniH ws k).length ≤ k := by
  rw [(ini_spec ws k hk).2.2.2.1]
  clear hk
  induction k with
  | zero => exact Nat.le_refl _
  | succ k ih => simp only [sumTo]; split <;> omega

theorem tree_push {w w3 : World} {B ga ca x1 x2 y1 y2 : Nat} {o1 o2 : Obj} {ab : List Nat} {l R : List Nd} (hH : HpAt B w3 l) (hO : w3.ownsRow w.heap.size 3 1 (.slice (some ⟨ga, 0, none⟩) ab.length ca) ab.length (iv ab)) (hbel : Below w.heap.size w w3) (hl : l.length ≤ 900) (hR : pushL l (x1 + y1, ab.length) = R) (hB : w.heap.size ≤ B) :
    Calls Tryd.prog 87 #[.pointer (some ⟨B, 0, none⟩), .agg #[.int .i64 ((x1 : Int) + (y1 : Int)), .int .i64 (ab.length : Int)]] ((((w3.setCell ⟨ga, x2, none⟩ (.int .i64 (ab.length : Int))).setCell ⟨ga, y2, none⟩ (.int .i64 (ab.length : Int))).alloc o1).alloc o2).drew
      fun e w' => e = .returned (.tuple #[]) ∧ HpAt B w' R ∧ Hid (w'.ownsRow w.heap.size 3 1 (.slice (some ⟨ga, 0, none⟩) ab.length ca) ab.length (iv ((ab.set x2 ab.length).set y2 ab.length))) ∧ Below w.heap.size w w' := by
  obtain ⟨cur, hcur, hbase⟩ := owns3_heap hO
  have hgl := lt_of_heap hcur
  have hO2 := owns3_set (owns3_set hO x2 ab.length) y2 ab.length
  have hsz : ((w3.setCell ⟨ga, x2, none⟩ (.int .i64 (ab.length : Int))).setCell ⟨ga, y2, none⟩ (.int .i64 (ab.length : Int))).heap.size = w3.heap.size := by simp [World.setCell]
  have hH4 : HpAt B ((((w3.setCell ⟨ga, x2, none⟩ (.int .i64 (ab.length : Int))).setCell ⟨ga, y2, none⟩ (.int .i64 (ab.length : Int))).alloc o1).alloc o2).drew l := by
    refine hH.keep (fun k arr t fr h1 h2 h3 => ?_)
    have hk := lt_of_heap h3
    have hne : k ≠ ga := by
      rintro rfl
      rw [h3] at hcur
      simp at hcur
      exact h2 hcur.2.1
    exact (heap_alloc_old (by simp [World.setCell]; omega) _).trans ((heap_alloc_old (by simp [World.setCell]; omega) _).trans ((heap_set_other hne _ _).trans ((heap_set_other hne _ _).trans h3)))
  have hO4 : ((((w3.setCell ⟨ga, x2, none⟩ (.int .i64 (ab.length : Int))).setCell ⟨ga, y2, none⟩ (.int .i64 (ab.length : Int))).alloc o1).alloc o2).drew.ownsRow w.heap.size 3 1 (.slice (some ⟨ga, 0, none⟩) ab.length ca) ab.length (iv ((ab.set x2 ab.length).set y2 ab.length)) :=
    owns_keep hO2 (fun g _ hg => (heap_alloc_old (by simp; omega) _).trans (heap_alloc_old hg _))
  have hb4 : Below w.heap.size w ((((w3.setCell ⟨ga, x2, none⟩ (.int .i64 (ab.length : Int))).setCell ⟨ga, y2, none⟩ (.int .i64 (ab.length : Int))).alloc o1).alloc o2).drew := by
    have := hbel.size
    exact ((((hbel.setCell (p := ⟨ga, x2, none⟩) hbase _).setCell (p := ⟨ga, y2, none⟩) hbase _).alloc (by omega) _).alloc (by simp; omega) _).drew
  have e : ((x1 : Int) + (y1 : Int)) = ((x1 + y1 : Nat) : Int) := by simp
  rw [e]
  refine (push_any B (x1 + y1) ab.length l R _ hH4 hl hR).mono ?_
  rintro e w5 ⟨rfl, q1, q2⟩
  obtain ⟨ao, cp, v1, _⟩ := hH4.var
  exact ⟨rfl, q1, owns3_kt hO4 v1 q2, hb4.trans (q2.below.mono hB)⟩

set_option maxRecDepth 100000 in
set_option maxHeartbeats 4000000 in
theorem tree_any (g o n cap : Nat) (ws : List Nat) (w : World) (hn : ws.length = n) (hn0 : 0 < n) (hn2 : n ≤ 300) (hL : IntsAt w g o (ni ws)) (hsum : ws.sum ≤ 1000000) :
    Calls Tryd.prog 77 #[.slice (some ⟨g, o, none⟩) n cap] w fun e w' => ∃ ga N ca, e = .returned (.slice (some ⟨ga, 0, none⟩) N ca) ∧ N = (treeL ws).length ∧ w'.ownsRow w.heap.size 3 1 (.slice (some ⟨ga, 0, none⟩) N ca) N (iv (treeL ws)) ∧ Below w.heap.size w w' := by
  obtain ⟨i0, hi, hz0, hz1, hz2⟩ := info_parts info3
  have hg := hL.lt
  have HN : Hid (ws.length = n) := hn
  have t0 := TI.init ws (by omega)
  rw [hn] at t0
  clear hn
  go_enter Tryd.func77, Tryd.ntmps77
  go_wp2_with (at_make; refine wpList_make_full _ rfl _ _ 36 rfl w.heap.size 3 i0 (.int .i64 0) 1 underlying36 hi hz0 hz1 .i64 .i64 n n n rfl rfl rfl rfl ?b1 ?b2 ?b3 ?go)
  case b1 => rw [hz2]; omega
  case b2 => unfold maxLen; omega
  case b3 => simp
  case go =>
    intro w1 hown hg1
    have hb1 : Below w.heap.size w w1 := (Below.refl _ _).grown hg1 (Nat.le_refl _) (fun k e => by cases e)
    have hs1 : w.heap.size < w1.heap.size := by
      obtain ⟨cur, h1, _⟩ := owns3_heap hown
      exact lt_of_heap h1
    rw [made_iv] at hown
    clear hg1
    have HO1 : Hid (w1.ownsRow w.heap.size 3 1 (.slice (some ⟨w.heap.size, 0, none⟩) n n) n (iv (List.replicate n 0))) := hown; clear hown
    go_wp2_with fail
    go_loopw [14] (fun i wr => ∃ k : Nat, k ≤ n ∧ i = .int .i64 k ∧ HpAt w1.heap.size wr (iniH ws k) ∧ Hid (wr.ownsRow w.heap.size 3 1 (.slice (some ⟨w.heap.size, 0, none⟩) n n) n (iv (List.replicate n 0))) ∧ Below w.heap.size w wr) (fun i _ => n - (intOf i).toNat)
    case atStart =>
      refine ⟨0, by omega, rfl, ⟨.slice none 0 0, heap_alloc_new _ _, rfl, Or.inl ⟨rfl, rfl⟩⟩, ?_, hb1.alloc (by omega) _⟩
      exact owns_keep HO1.out (fun g _ hg => heap_alloc_old hg _)
    case round =>
      obtain ⟨k, hk, rfl, hH, hO, hbel⟩ := hrel
      by_cases hlt : k < n
      · have hgc : wr.cell? ⟨g, o + k, none⟩ = some (.int .i64 ((gd ws k : Nat) : Int)) := by
          have := (hL.below hbel hg).cell k (by rw [ni_length, HN.out]; exact hlt)
          rw [ni_getD] at this
          exact this
        have hstep : iniH ws (k + 1) = if 0 < gd ws k then pushL (iniH ws k) (gd ws k, k) else iniH ws k := rfl
        have hle := iniH_le ws k (by rw [HN.out]; exact hk)
        generalize gd ws k = x at hgc hstep
        have HS : Hid _ := hstep; clear hstep
        by_cases hx : x = 0
        · subst hx
          go_wp2_with fail
          go_roundw
          case rel =>
            have := HS.out
            rw [if_neg (by omega)] at this
            exact ⟨k + 1, by omega, by go_num, by rw [this]; exact hH, hO, hbel⟩
          case measure => simp [intOf]; omega
        · have hx1 : (0 : Int) < (x : Int) := by omega
          have hs := HS.out
          rw [if_pos (by omega)] at hs
          have HS2 : Hid _ := hs; clear hs HS
          go_wp2_with fail
          refine (push_any w1.heap.size x k (iniH ws k) (iniH ws (k + 1)) wr hH (by omega) HS2.out.symm).mono ?_
          rintro e w2 ⟨rfl, hH2, hK2⟩
          go_wp2_with fail
          go_roundw
          case rel =>
            obtain ⟨ao, cp, q1, _⟩ := hH.var
            exact ⟨k + 1, by omega, by go_num, hH2, owns3_kt hO.out q1 hK2, hbel.trans (hK2.below.mono (by omega))⟩
          case measure => simp [intOf]; omega
      · have : k = n := by omega
        subst this
        have hle := iniH_le ws k (by rw [HN.out]; exact Nat.le_refl _)
        have hn := HN.out
        obtain ⟨H0, hH0⟩ : ∃ H0, iniH ws k = H0 := ⟨_, rfl⟩
        have htree : treeL ws = if H0.length = 1 then (List.replicate k 0).set (nd H0 0).2 k ++ [0] else trGo H0.length (List.replicate k 0) H0 := by
          unfold treeL
          rw [hn, hH0]
        rw [hH0] at hH hle t0
        have HT : Hid _ := htree; clear htree hn hH0
        by_cases hone : H0.length = 1
        · obtain ⟨v, q1, q2⟩ := hH
          rw [hone] at q2
          obtain ⟨gh, cp, rfl⟩ : ∃ gh cp, v = .slice (some ⟨gh, 0, none⟩) 1 cp := by
            rcases q2.2 with ⟨_, h2⟩ | ⟨g, cap, _, h2, _⟩
            · omega
            · exact ⟨g, cap, h2⟩
          obtain ⟨hN, hBg, _⟩ := owns_nd q2
          obtain ⟨a0, a1⟩ := hN.cells 0 (by omega)
          obtain ⟨m1, _, _⟩ := t0.mem (nd_mem H0 (by omega))
          rw [List.length_replicate] at m1
          have c0 : wr.cell? ⟨w1.heap.size, 0, none⟩ = some (.slice (some ⟨gh, 0, none⟩) 1 cp) := cell_of_heap q1 0
          have ht := HT.out
          rw [if_pos hone] at ht
          obtain ⟨⟨x1, x2⟩, hx⟩ : ∃ x, nd H0 0 = x := ⟨_, rfl⟩
          rw [hx] at a0 a1 m1 ht
          rw [Nat.zero_mul] at a0
          rw [Nat.zero_mul, Nat.zero_add] at a1
          simp only at a0 a1 m1 ht
          have HT2 : Hid _ := ht; clear ht HT
          have d0 := owns3_cell hO.out x2 (by rw [List.length_replicate]; exact m1)
          have fz := owns3_free hO.out
          have hset := owns3_set hO.out x2 k
          have HST : Hid _ := hset
          have hgl := hN.lt
          have hBl := lt_of_heap q1
          have hmi : (x2 : Int) < (k : Int) := by omega
          clear q1 q2 hN t0 hx hset
          go_wp2_with (at_builtin; refine wpList_append_own _ rfl (.tmp 37) (.tmp 38) 36 rfl w.heap.size 3 i0 (.int .i64 0) 1 8 underlying36 hi hz0 hz1 hz2 rfl (by decide) (.slice (some ⟨w.heap.size, 0, none⟩) k k) k (iv ((List.replicate k 0).set x2 k)) rfl ?own ⟨wr.heap.size, 0, none⟩ 1 1 [.int .i64 0] rfl rfl ?c1 ?c2 ?b1 ?b2 ?b3 ?grow)
          case own => exact owns_keep HST.out (fun g _ hg => heap_alloc_old hg _)
          case c1 => exact one_new (by simp [World.setCell]) _ _
          case c2 => intro u hu; simp at hu; subst hu; rfl
          case b1 => unfold maxLen; omega
          case b2 => omega
          case b3 => simp; omega
          case grow =>
            intro v' w5 ho5 hg5 _
            obtain ⟨g5, c5, rfl⟩ : ∃ g cap', v' = .slice (some ⟨g, 0, none⟩) (k + 1) cap' := by
              rcases ho5.2 with ⟨_, h⟩ | ⟨g, cap', _, h, _⟩
              · omega
              · exact ⟨g, cap', h⟩
            go_wp2_with fail
            go_ret
            refine ⟨g5, k + 1, c5, rfl, by rw [HT2.out, List.length_append, List.length_set, List.length_replicate]; rfl, ?_, ?_⟩
            · rw [HT2.out, iv_append]; exact ho5
            · exact ((hbel.setCell (p := ⟨w.heap.size, x2, none⟩) (Nat.le_refl _) _).alloc (by simp [World.setCell]; omega) _).grown hg5 (by simp [World.setCell]; omega) (fun q e => by simp [Value.ownBlock] at e; omega)
        · have ht := HT.out
          rw [if_neg hone] at ht
          have HT2 : Hid _ := ht; clear ht HT
          obtain ⟨ao, cp, q1, q2⟩ := hH.var
          clear q1
          have hone1 : ((H0.length : Int) == 1) = false := by simp; omega
          go_wp2_with fail
          clear q2 hone1
          go_loopw [3] (fun av wr => ∃ (ab : List Nat) (H : List Nd) (hh : Nat → Nat) (lm f ga ca : Nat), av = .slice (some ⟨ga, 0, none⟩) ab.length ca ∧ Hid (TI ws ab H hh lm) ∧ HpAt w1.heap.size wr H ∧ Hid (wr.ownsRow w.heap.size 3 1 (.slice (some ⟨ga, 0, none⟩) ab.length ca) ab.length (iv ab)) ∧ Hid (trGo f ab H = treeL ws) ∧ H.length ≤ f ∧ Below w.heap.size w wr) (fun av _ => 2 * k - lenOf av)
          case atStart =>
            refine ⟨List.replicate k 0, H0, _, 0, H0.length, w.heap.size, k, by simp, t0, hH, ?_, HT2.out.symm, Nat.le_refl _, hbel⟩
            rw [List.length_replicate]; exact hO.out
          case round =>
            obtain ⟨ab, H, hh, lm, f, ga, ca, rfl, T, hH, hO, HR, hf, hbel⟩ := hrel
            have hcnt := T.out.cnt
            have hlen := T.out.len
            have hpos : posN ws ≤ k := by
              have h4 := (ini_spec ws ws.length (Nat.le_refl _)).2.2.2.1
              have h5 := iniH_le ws ws.length (Nat.le_refl _)
              rw [h4, HN.out] at h5
              unfold posN
              rw [HN.out]; exact h5
            rw [HN.out] at hcnt hlen
            obtain ⟨ao, cp, q1, q2⟩ := hH.var
            have hBl := hH.lt
            have hBne : ga ≠ w1.heap.size := by
              obtain ⟨cur, h1, _⟩ := owns3_heap hO.out
              intro e
              rw [e, q1] at h1
              simp at h1
            by_cases htwo : 1 < H.length
            · cases f with
              | zero => omega
              | succ f =>
              have hr := HR.out
              simp only [trGo, if_pos htwo] at hr
              obtain ⟨hh', lm', T'⟩ := T.out.step (by omega)
              obtain ⟨p1, p2, p3, _⟩ := pop_length H (by intro e; simp [e] at htwo) T.out.hp
              obtain ⟨p4, p5, p6, _⟩ := pop_length (popL H) (by intro e; simp [e] at p1; omega) p2
              have hxm := T.out.mem (nd_mem H (by omega))
              have hym : nd (popL H) 0 ∈ H := p3.symm.subset (List.mem_cons_of_mem _ (nd_mem _ (by omega)))
              have hyy := T.out.mem hym
              have hsm := T.out.wt
              have hxyne := T.out.ne (by omega)
              have e1 := (p3.map Prod.fst).sum_nat
              have e2 := (p6.map Prod.fst).sum_nat
              simp only [List.map_cons, List.sum_cons] at e1 e2
              obtain ⟨⟨x1, x2⟩, hx⟩ : ∃ x, nd H 0 = x := ⟨_, rfl⟩
              obtain ⟨⟨y1, y2⟩, hy⟩ : ∃ x, nd (popL H) 0 = x := ⟨_, rfl⟩
              have hA : mrgA ab H = ((ab.set x2 ab.length).set y2 ab.length) ++ [0] := by unfold mrgA; rw [hx, hy]
              have hM : pushL (popL (popL H)) (x1 + y1, ab.length) = mrgH ab H := by unfold mrgH; rw [hx, hy]
              rw [hx, hy] at hxyne
              rw [hx] at e1 hxm
              rw [hy] at e2 hyy
              simp only at e1 e2 hxm hyy hxyne
              have hyx : ¬ y2 = x2 := fun e => hxyne e.symm
              have hxy : x1 + y1 ≤ 1000000 := by omega
              obtain ⟨hx2, _, _⟩ := hxm
              obtain ⟨hy2, _, _⟩ := hyy
              clear e1 e2 hsm hym p3 p6
              have HR2 : Hid _ := hr; clear hr HR
              have HA : Hid _ := hA; clear hA
              have HM : Hid _ := hM; clear hM
              have HX : Hid _ := hx; clear hx
              have HY : Hid _ := hy; clear hy
              have hAl : (mrgA ab H).length = ab.length + 1 := by rw [HA.out]; simp
              have HAL : Hid _ := hAl; clear hAl
              have P1 : Hid _ := p1; clear p1
              have P4 : Hid _ := p4; clear p4
              have Q1 : Hid (wr.heap[w1.heap.size]? = some (.cells #[.slice ao H.length cp] 126 (0, 0))) := q1; clear q1
              clear p2 p5 hcnt
              go_wp2_with fail
              refine (pop_any w1.heap.size x1 x2 H wr hH (by have := T.out.cnt; have := HN.out; omega) (by omega) HX.out).mono ?_
              rintro e w2 ⟨rfl, hH2, hK2⟩
              go_wp2_with fail
              refine (pop_any w1.heap.size y1 y2 (popL H) w2 hH2 (by have := T.out.cnt; have := HN.out; have := P1.out; omega) (by have := P1.out; omega) HY.out).mono ?_
              rintro e w3 ⟨rfl, hH3, hK3⟩
              have hK13 := hK2.trans hK3
              have hO3 : Hid (w3.ownsRow w.heap.size 3 1 (.slice (some ⟨ga, 0, none⟩) ab.length ca) ab.length (iv ab)) := owns3_kt hO.out Q1.out hK13
              have c1 := owns3_cell hO3.out x2 hx2
              have c2 := owns3_cell hO3.out y2 hy2
              have fz := owns3_free hO3.out
              have hgl : ga < w3.heap.size := lt_of_cell c1
              have hB3 := hH3.lt
              have i1 : (x2 : Int) < (ab.length : Int) := by omega
              have i2 : (y2 : Int) < (ab.length : Int) := by omega
              generalize gd ab x2 = z1 at c1
              generalize gd ab y2 = z2 at c2
              go_wp2_with fail
              have hcall := tree_push (o1 := .cells #[.int .i64 (x1 : Int), .int .i64 (x2 : Int)] 129) (o2 := .cells #[.int .i64 (y1 : Int), .int .i64 (y2 : Int)] 129) (x1 := x1) (x2 := x2) (y1 := y1) (y2 := y2) hH3 hO3.out (hbel.trans (hK13.below.mono (by omega))) (by have := T.out.cnt; have := HN.out; have := P1.out; have := P4.out; omega) HM.out (show w.heap.size ≤ w1.heap.size by omega)
              have HC : Hid _ := hcall; clear hcall
              go_region
              go_wp2_with fail
              refine Calls.mono HC.out ?_
              rintro e w5 ⟨rfl, hH5, hO5, hb5⟩
              have hs5 := hb5.size
              go_wp2_with (at_builtin; refine wpList_append_own _ rfl (.tmp 66) (.tmp 67) 36 rfl w.heap.size 3 i0 (.int .i64 0) 1 8 underlying36 hi hz0 hz1 hz2 rfl (by decide) (.slice (some ⟨ga, 0, none⟩) ab.length ca) ab.length (iv ((ab.set x2 ab.length).set y2 ab.length)) rfl ?own ⟨w5.heap.size, 0, none⟩ 1 1 [.int .i64 0] rfl rfl ?c1 ?c2 ?b1 ?b2 ?b3 ?grow)
              case own => exact owns_keep hO5.out (fun g _ hg => heap_alloc_old hg _)
              case c1 => exact one_new rfl _ _
              case c2 => intro u hu; simp at hu; subst hu; rfl
              case b1 => unfold maxLen; have := T.out.cnt; have := HN.out; omega
              case b2 => have := T.out.cnt; have := HN.out; omega
              case b3 => simp; omega
              case grow =>
                intro v' w6 ho6 hg6 _
                obtain ⟨g6, c6, rfl⟩ : ∃ g cap', v' = .slice (some ⟨g, 0, none⟩) (ab.length + 1) cap' := by
                  rcases ho6.2 with ⟨_, h⟩ | ⟨g, cap', _, h, _⟩
                  · omega
                  · exact ⟨g, cap', h⟩
                have hH6 : HpAt w1.heap.size w6 (mrgH ab H) := by
                  refine hH5.keep (fun q arr t fr h1 h2 h3 => ?_)
                  have hq := lt_of_heap h3
                  rw [hg6.block q (by simp; omega) (fun e => ?_)]
                  · exact (heap_alloc_old hq _).trans h3
                  · simp [Value.ownBlock] at e
                    subst e
                    obtain ⟨cur, h4, _⟩ := owns3_heap hO5.out
                    rw [h3] at h4
                    simp at h4
                    exact h2 h4.2.1
                have hb6 : Below w.heap.size w w6 := (hb5.alloc (by omega) _).grown hg6 (by simp; omega) (fun q e => by
                  simp [Value.ownBlock] at e
                  subst e
                  obtain ⟨_, _, h4⟩ := owns3_heap hO5.out
                  exact h4)
                go_wp2_with fail
                go_roundw
                case rel =>
                  refine ⟨mrgA ab H, mrgH ab H, hh', lm', f, g6, c6, by rw [HAL.out], T', hH6, ?_, HR2.out, ?_, hb6⟩
                  · rw [HAL.out, HA.out, iv_append]; exact ho6
                  · have := T'.cnt
                    have := T.out.cnt
                    have := HAL.out
                    have := HN.out
                    omega
                case measure =>
                  have := T.out.cnt
                  have := HN.out
                  simp [lenOf]; omega
            · have hr : treeL ws = ab := by
                have := HR.out
                cases f with
                | zero => exact this.symm
                | succ f => simp only [trGo, if_neg htwo] at this; exact this.symm
              have HR2 : Hid _ := hr; clear hr HR
              clear hcnt
              go_wp2_with fail
              go_ret
              refine ⟨ga, ab.length, ca, rfl, by rw [HR2.out], ?_, hbel⟩
              rw [HR2.out]; exact hO.out

end Go.Proofs.YtdpobjgfnhjagaaDoor

namespace Go.Proofs.YtdpobjgfnhjagaaDoor
open Go.RowKit

theorem treeL_ok (ws : List Nat) (h0 : 0 < ws.length) : (∀ i, i < (treeL ws).length → gd (treeL ws) i = 0 ∨ (i < gd (treeL ws) i ∧ gd (treeL ws) i < (treeL ws).length)) ∧ ws.length ≤ (treeL ws).length ∧ (treeL ws).length ≤ 2 * ws.length := by
  have t0 := TI.init ws h0
  have hp : posN ws ≤ ws.length := by
    have h5 := iniH_le ws ws.length (Nat.le_refl _)
    rw [(ini_spec ws ws.length (Nat.le_refl _)).2.2.2.1] at h5
    exact h5
  unfold treeL
  by_cases c1 : (iniH ws ws.length).length = 1
  · rw [if_pos c1]
    obtain ⟨m1, _, _⟩ := t0.mem (nd_mem (iniH ws ws.length) (by omega))
    rw [List.length_replicate] at m1
    generalize (nd (iniH ws ws.length) 0).2 = r at *
    refine ⟨fun i hi => ?_, by simp, by simp; omega⟩
    simp only [List.length_append, List.length_set, List.length_replicate, List.length_cons, List.length_nil] at hi ⊢
    rw [gd_snoc]
    simp only [List.length_set, List.length_replicate]
    by_cases c : i < ws.length
    · rw [if_pos c, gd_set _ _ _ _ (by simpa using m1), gd_replicate]
      by_cases e : i = r
      · rw [if_pos e]; right; omega
      · rw [if_neg e]; left; rfl
    · rw [if_neg c]; left; split <;> rfl
  · rw [if_neg c1]
    by_cases c2 : (iniH ws ws.length).length = 0
    · rw [c2]
      simp only [trGo]
      exact ⟨fun i _ => Or.inl (gd_replicate _ _), by simp, by simp; omega⟩
    · obtain ⟨H', ht', lm', t', e⟩ := TI.run _ t0 (Nat.le_refl _) (by omega)
      have hc := t'.cnt
      have hl := t'.len
      exact ⟨fun i hi => by rcases t'.par i hi with h | h <;> omega, hl, by omega⟩

set_option maxRecDepth 100000 in
set_option maxHeartbeats 2000000 in
theorem depths_any (g o n cap : Nat) (ws : List Nat) (w : World) (hn : ws.length = n) (hn0 : 0 < n) (hn2 : n ≤ 300) (hL : IntsAt w g o (ni ws)) (hsum : ws.sum ≤ 1000000) :
    Calls Tryd.prog 57 #[.slice (some ⟨g, o, none⟩) n cap] w fun e w' => ∃ gk c lens, e = .returned (.slice (some ⟨gk, 0, none⟩) n c) ∧ n ≤ c ∧ DepOk ws lens ∧ IntsAt w' gk 0 (ni lens) ∧ w.heap.size ≤ gk ∧ (∀ x ∈ lens, x ≤ 600) ∧ (∃ cur, w'.heap[gk]? = some (.cells cur 3 (0, 0))) ∧ Below w.heap.size w w' := by
  obtain ⟨i0, hi, hz0, hz1, hz2⟩ := info_parts info3
  have hg := hL.lt
  obtain ⟨p1, p2, p3⟩ := treeL_ok ws (by omega)
  rw [hn] at p2 p3
  have hdep := depths_spec ws (by omega)
  have hdl : ∀ D, DepOk ws D → D.length = n := fun D h => by rw [h.len, hn]
  rw [hn] at hdep
  have HDP : Hid _ := hdep; clear hdep
  go_enter Tryd.func57, Tryd.ntmps57
  go_wp2_with fail
  refine (tree_any g o n cap ws w hn hn0 hn2 hL hsum).mono ?_
  rintro e w1 ⟨ga, N, ca, rfl, hN, ho, hb1⟩
  obtain ⟨AB, hAB⟩ : ∃ AB, treeL ws = AB := ⟨_, rfl⟩
  rw [hAB] at ho hN p1 p2 p3 HDP
  rw [← hN] at p1 p2 p3
  obtain ⟨cur, hcur, hga⟩ := owns3_heap ho
  have hal := lt_of_heap hcur
  have HNN : Hid (N = AB.length) := hN; clear hN hAB hn
  have HO : Hid (w1.ownsRow w.heap.size 3 1 (.slice (some ⟨ga, 0, none⟩) N ca) N (iv AB)) := ho
  clear hcur ho
  go_wp2_with (at_make; refine wpList_make_full _ rfl _ _ 36 rfl w1.heap.size 3 i0 (.int .i64 0) 1 underlying36 hi hz0 hz1 .i64 .i64 N N N rfl rfl rfl rfl ?b1 ?b2 ?b3 ?go)
  case b1 => rw [hz2]; omega
  case b2 => unfold maxLen; omega
  case b3 => simp
  case go =>
    intro w2 hown hg2
    have hh := owns_full hown
    rw [made_zero N] at hh
    have hb2 : Below w.heap.size w w2 := hb1.grown hg2 (by omega) (fun k e => by cases e)
    have hO2 : Hid (w2.ownsRow w.heap.size 3 1 (.slice (some ⟨ga, 0, none⟩) N ca) N (iv AB)) := owns_keep HO.out (fun g _ hg => hg2.block g hg (by simp))
    have hz0N : (List.replicate N (0 : Int)) = ni (List.replicate N 0) := by simp [ni]
    rw [hz0N] at hh
    clear hown hg2
    have HH : Hid (w2.heap[w1.heap.size]? = some (.cells (ints (ni (List.replicate N 0))) 3 (0, 0))) := hh; clear hh hz0N
    go_wp2_with fail
    go_loopw [5] (fun i wr => ∃ (j : Nat) (D : List Nat), i = .int .i64 ((j : Int) - 1) ∧ j + 1 ≤ N ∧ Hid (D.length = N) ∧ Hid (gd D (N - 1) = 0) ∧ Hid (∀ q, q < j → gd D q = 0) ∧ Hid (∀ q, j ≤ q → gd D q + q ≤ N ∨ N ≤ q) ∧ Hid (∀ q, j ≤ q → q + 1 < N → gd D q = if gd AB q = 0 then 0 else gd D (gd AB q) + 1) ∧ wr.heap[w1.heap.size]? = some (.cells (ints (ni D)) 3 (0, 0)) ∧ Hid (wr.ownsRow w.heap.size 3 1 (.slice (some ⟨ga, 0, none⟩) N ca) N (iv AB)) ∧ Below w.heap.size w wr) (fun i _ => (intOf i + 1).toNat)
    case atStart =>
      refine ⟨N - 1, List.replicate N 0, ?_, by omega, by simp [Hid], gd_replicate _ _, fun q _ => gd_replicate _ _, fun q hq => by rw [gd_replicate]; omega, fun q h1 h2 => by omega, HH.out, hO2, hb2⟩
      rw [show ((N - 1 : Nat) : Int) - 1 = (N : Int) - 2 by omega]
    case round =>
      obtain ⟨j, D, rfl, hj, hDl, hD0, hDz, hDb, hDd, hhr, hOr, hbr⟩ := hrel
      cases j with
      | zero =>
        have hK : Hid _ := hhr; clear hhr
        have hnN : n ≤ N := p2
        go_wp2_with fail
        go_ret
        have hres := HDP.out D ⟨by rw [hDl.out, HNN.out], by rw [← HNN.out]; exact hD0.out, fun i hi => hDd.out i (by omega) (by rw [HNN.out]; exact hi)⟩
        have hi := IntsAt.of_heap hK.out
        refine ⟨w1.heap.size, N, D.take n, rfl, hnN, hres, ⟨hi.lt, fun q hq => ?_⟩, by have := hb1.size; omega, fun x hx => ?_, ⟨_, hK.out⟩, hbr⟩
        · rw [ni_length] at hq
          simp only [List.length_take] at hq
          have := hi.cell q (by rw [ni_length]; omega)
          rw [this, ni_getD, ni_getD]
          have e := gd_takeN D n q (by omega)
          rw [show (D.take n).getD q 0 = D.getD q 0 from e]
        · obtain ⟨q, hq, rfl⟩ := List.getElem_of_mem hx
          simp only [List.length_take] at hq
          have e := gd_takeN D n q (by omega)
          have e2 : gd (D.take n) q = (D.take n)[q] := by simp [gd, List.getD, hq]
          rw [← e2, e]
          have := hDb.out q (by omega)
          have := hDl.out
          omega
      | succ j =>
        have hDlen := hDl.out
        have hABl := HNN.out
        have c1 := owns3_cell hOr.out j (by omega)
        have hal2 := lt_of_cell c1
        have hkl := lt_of_heap hhr
        obtain ⟨a, ha⟩ : ∃ a, gd AB j = a := ⟨_, rfl⟩
        have hpar := p1 j (by omega)
        rw [ha] at hpar c1
        have ci := cell_ints hhr j (by rw [ni_length]; omega)
        have hfz := free_of_heap hhr
        rw [ni_getD] at ci
        have e1 : (((j + 1 : Nat) : Int) - 1) = (j : Int) := by omega
        rw [e1]
        have hjN : (j : Int) < (N : Int) := by omega
        by_cases ha0 : a = 0
        · subst ha0
          have hK : Hid _ := hhr; clear hhr
          clear hDlen hABl ci
          have HA : Hid _ := ha; clear ha
          go_wp2_with fail
          go_roundw
          case rel =>
            refine ⟨j, D, by go_num, by omega, hDl, hD0, fun q hq => hDz.out q (by omega), fun q hq => ?_, fun q h1 h2 => ?_, hK.out, hOr, hbr⟩
            · by_cases e : q = j
              · rw [e, hDz.out j (by omega)]; omega
              · exact hDb.out q (by omega)
            · by_cases e : q = j
              · rw [e, HA.out, if_pos rfl]; exact hDz.out j (by omega)
              · exact hDd.out q (by omega) h2
          case measure => simp [intOf]
        · obtain ⟨q1, q2⟩ := hpar.resolve_left ha0
          have hDa := hDb.out a (by omega)
          have ca2 := cell_ints hhr a (by rw [ni_length]; omega)
          rw [ni_getD] at ca2
          have hset := set_ints hhr j (((gd D a + 1 : Nat)) : Int)
          rw [ni_set] at hset
          obtain ⟨d, hd⟩ : ∃ d, gd D a = d := ⟨_, rfl⟩
          have ca3 : wr.cell? ⟨w1.heap.size, a, none⟩ = some (.int .i64 (d : Int)) := by rw [← hd]; exact ca2
          rw [hd] at hset hDa
          have hane : a ≠ j := by omega
          have haj : (a : Int) < (N : Int) := by omega
          have ha1 : (0 : Int) < (a : Int) := by omega
          have HS : Hid _ := hset; clear hset ca2
          have hK : Hid _ := hhr; clear hhr
          obtain ⟨dj, hdj⟩ : ∃ dj, wr.cell? ⟨w1.heap.size, j, none⟩ = some (.int .i64 dj) := ⟨_, ci⟩
          have HL : Hid _ := hDlen
          clear hDlen hABl ci
          have HA : Hid _ := ha; clear ha
          have HD : Hid _ := hd; clear hd
          go_wp2_with fail
          go_roundw
          case rel =>
            have hl := HL.out
            have hgs := fun q => gd_set D j q (d + 1) (by omega)
            refine ⟨j, D.set j (d + 1), by go_num, by omega, by simpa [Hid] using hl, ?_, fun q hq => ?_, fun q hq => ?_, fun q h1 h2 => ?_, ?_, ?_, ?_⟩
            · show gd (D.set j (d + 1)) (N - 1) = 0
              rw [hgs, if_neg (by omega)]; exact hD0.out
            · rw [hgs, if_neg (by omega)]; exact hDz.out q (by omega)
            · rw [hgs]
              by_cases e : q = j
              · rw [if_pos e]; omega
              · rw [if_neg e]; exact hDb.out q (by omega)
            · rw [hgs]
              by_cases e : q = j
              · rw [if_pos e, e, HA.out, if_neg ha0, hgs, if_neg hane, HD.out]
              · rw [if_neg e, hDd.out q (by omega) h2]
                by_cases e2 : gd AB q = 0
                · rw [if_pos e2, if_pos e2]
                · have := (p1 q (by omega)).resolve_left e2
                  rw [if_neg e2, if_neg e2, hgs, if_neg (by omega)]
            · exact HS.out
            · refine owns_keep hOr.out (fun g' hg' _ => heap_set_other ?_ _ _)
              simp [Value.ownBlock] at hg'
              have := hb1.size
              omega
            · exact hbr.setCell (p := ⟨w1.heap.size, j, none⟩) (by show w.heap.size ≤ w1.heap.size; exact hb1.size) _
          case measure => simp [intOf]

end Go.Proofs.YtdpobjgfnhjagaaDoor

namespace Go.Proofs.YtdpobjgfnhjagaaDoor
open Go.RowKit

/-- The first k weights brought nearer to each other. -/
def flatK (ws : List Nat) (k : Nat) : List Nat := (List.range ws.length).map fun i => if i < k then (gd ws i + 1) / 2 else gd ws i
theorem flatK_length (ws : List Nat) (k : Nat) : (flatK ws k).length = ws.length := by simp [flatK]
theorem gd_flatK (ws : List Nat) (k i : Nat) (hi : i < ws.length) : gd (flatK ws k) i = if i < k then (gd ws i + 1) / 2 else gd ws i := by
  simp [gd, flatK, List.getD, hi]
theorem gd_ext (a b : List Nat) (hl : a.length = b.length) (h : ∀ i, i < a.length → gd a i = gd b i) : a = b := by
  apply List.ext_getElem hl
  intro i h1 h2
  have := h i h1
  simpa [gd, List.getD, h1, h2] using this
theorem flatK_zero (ws : List Nat) : flatK ws 0 = ws := gd_ext _ _ (flatK_length _ _) fun i hi => by
  rw [flatK_length] at hi
  rw [gd_flatK ws 0 i hi, if_neg (by omega)]
theorem flatK_set (ws : List Nat) (k : Nat) (hk : k < ws.length) : (flatK ws k).set k ((gd ws k + 1) / 2) = flatK ws (k + 1) := gd_ext _ _ (by simp [flatK]) fun i hi => by
  simp only [List.length_set, flatK_length] at hi
  rw [gd_set _ _ _ _ (by rw [flatK_length]; exact hk), gd_flatK _ _ _ hi, gd_flatK _ _ _ hi]
  by_cases e : i = k
  · rw [if_pos e, if_pos (by omega), e]
  · rw [if_neg e]
    by_cases c : i < k
    · rw [if_pos c, if_pos (by omega)]
    · rw [if_neg c, if_neg (by omega)]

set_option maxRecDepth 100000 in
set_option maxHeartbeats 1000000 in
theorem flatten_any (base ga n ca : Nat) (ws : List Nat) (w : World) (hn : ws.length = n) (hn2 : n ≤ 300) (hO : w.ownsRow base 3 1 (.slice (some ⟨ga, 0, none⟩) n ca) n (iv ws)) (hsum : ∀ i, gd ws i ≤ 1000000) :
    Calls Tryd.prog 60 #[.slice (some ⟨ga, 0, none⟩) n ca] w fun e w' => e = .returned (.tuple #[]) ∧ w'.ownsRow base 3 1 (.slice (some ⟨ga, 0, none⟩) n ca) n (iv (flatK ws n)) ∧ Fr (One ga) w w' := by
  have HN : Hid (ws.length = n) := hn; clear hn
  have HO : Hid (w.ownsRow base 3 1 (.slice (some ⟨ga, 0, none⟩) n ca) n (iv ws)) := hO; clear hO
  go_enter Tryd.func60, Tryd.ntmps60
  go_wp2_with fail
  go_loopw [6] (fun i wr => ∃ k : Nat, k ≤ n ∧ i = .int .i64 k ∧ Hid (wr.ownsRow base 3 1 (.slice (some ⟨ga, 0, none⟩) n ca) n (iv (flatK ws k))) ∧ Fr (One ga) w wr) (fun i _ => n - (intOf i).toNat)
  case atStart => exact ⟨0, by omega, rfl, by rw [flatK_zero]; exact HO.out, Fr.refl _ _⟩
  case round =>
    obtain ⟨k, hk, rfl, hO, hfr⟩ := hrel
    by_cases hlt : k < n
    · have hl := HN.out
      have c1 := owns3_cell hO.out k (by rw [flatK_length]; omega)
      have fz := owns3_free hO.out
      have hset := owns3_set hO.out k ((gd ws k + 1) / 2)
      rw [flatK_set ws k (by omega)] at hset
      rw [gd_flatK ws k k (by omega), if_neg (by omega)] at c1
      have hb := hsum k
      have HS : Hid (∀ x : Nat, x = gd ws k → (wr.setCell ⟨ga, k, none⟩ (.int .i64 (((x + 1) / 2 : Nat) : Int))).ownsRow base 3 1 (.slice (some ⟨ga, 0, none⟩) n ca) n (iv (flatK ws (k + 1)))) := fun x hx => by rw [hx]; exact hset
      clear hset hl
      obtain ⟨x, hx⟩ : ∃ x, gd ws k = x := ⟨_, rfl⟩
      rw [hx] at c1 hb
      have HX : Hid _ := hx; clear hx
      have hh : Hid ((((x : Int) + 1) / 2) = (((x + 1) / 2 : Nat) : Int)) := by show _ = _; omega
      go_wp2_with fail
      go_roundw
      case rel =>
        refine ⟨k + 1, by omega, by go_num, ?_, hfr.setCell (p := ⟨ga, k, none⟩) rfl _⟩
        have := HS.out x HX.out.symm
        rw [← hh.out] at this
        exact this
      case measure => simp [intOf]; omega
    · have : k = n := by omega
      subst this
      go_wp2_with fail
      go_end0
      exact ⟨rfl, hO.out, hfr⟩

set_option maxHeartbeats 400000 in
theorem over_any (bx x m : Nat) (w : World) (hb : w.cell? ⟨bx, 0, none⟩ = some (.int .i64 (m : Int))) :
    Calls Tryd.prog 59 #[.int .i64 (x : Int), .pointer (some ⟨bx, 0, none⟩)] w fun e w' => e = .returned (.bool (decide (m < x))) ∧ w' = w := by
  go_enter Tryd.func59, Tryd.ntmps59
  go_wp2_with fail
  go_ret
  exact ⟨by simp, rfl⟩

set_option maxRecDepth 100000 in
set_option maxHeartbeats 1000000 in
theorem index_any (g n c bx m : Nat) (lens : List Nat) (w : World) (hn : lens.length = n) (hn2 : n ≤ 300) (hL : IntsAt w g 0 (ni lens)) (hb : w.cell? ⟨bx, 0, none⟩ = some (.int .i64 (m : Int))) :
    Calls Tryd.prog 78 #[.slice (some ⟨g, 0, none⟩) n c, .func (.func 59) #[] #[.pointer (some ⟨bx, 0, none⟩)]] w fun e w' => ∃ r : Int, e = .returned (.int .i64 r) ∧ ((r = -1 ∧ ∀ i, i < n → gd lens i ≤ m) ∨ (0 ≤ r ∧ ∃ i, i < n ∧ m < gd lens i)) ∧ w' = w := by
  have HN : Hid (lens.length = n) := hn; clear hn
  go_enter Tryd.func78, Tryd.ntmps78
  go_wp2_with fail
  go_loopw [8] (fun i wr => ∃ k : Nat, k ≤ n ∧ i = .int .i64 k ∧ Hid (∀ i, i < k → gd lens i ≤ m) ∧ wr = w) (fun i _ => n - (intOf i).toNat)
  case atStart => exact ⟨0, by omega, rfl, fun i hi => by omega, rfl⟩
  case round =>
    obtain ⟨k, hk, rfl, hall, rfl⟩ := hrel
    by_cases hlt : k < n
    · have hl := HN.out
      have hgc : wr.cell? ⟨g, k, none⟩ = some (.int .i64 ((gd lens k : Nat) : Int)) := by
        have := hL.cell k (by rw [ni_length]; omega)
        rw [ni_getD, Nat.zero_add] at this
        exact this
      obtain ⟨x, hx⟩ : ∃ x, gd lens k = x := ⟨_, rfl⟩
      rw [hx] at hgc
      have HX : Hid _ := hx; clear hx hl
      go_wp2_with fail
      refine (over_any bx x m wr hb).mono ?_
      rintro e w' ⟨rfl, rfl⟩
      by_cases hx : m < x
      · have hd : decide (m < x) = true := by simp [hx]
        go_wp2_with fail
        go_ret
        exact ⟨k, rfl, Or.inr ⟨by omega, k, hlt, by rw [HX.out]; exact hx⟩, rfl⟩
      · have hd : decide (m < x) = false := by simp [hx]
        go_wp2_with fail
        go_roundw
        case rel =>
          refine ⟨k + 1, by omega, by go_num, fun i hi => ?_, trivial⟩
          by_cases e : i = k
          · rw [e, HX.out]; omega
          · exact hall.out i (by omega)
        case measure => simp [intOf]; omega
    · have : k = n := by omega
      subst this
      go_wp2_with fail
      go_ret
      exact ⟨-1, rfl, Or.inl ⟨rfl, hall.out⟩, rfl⟩

set_option maxHeartbeats 400000 in
theorem contains_any (g n c bx m : Nat) (lens : List Nat) (w : World) (hn : lens.length = n) (hn2 : n ≤ 300) (hL : IntsAt w g 0 (ni lens)) (hb : w.cell? ⟨bx, 0, none⟩ = some (.int .i64 (m : Int))) :
    Calls Tryd.prog 58 #[.slice (some ⟨g, 0, none⟩) n c, .func (.func 59) #[] #[.pointer (some ⟨bx, 0, none⟩)]] w fun e w' => ∃ r : Bool, e = .returned (.bool r) ∧ ((r = false ∧ ∀ i, i < n → gd lens i ≤ m) ∨ (r = true ∧ ∃ i, i < n ∧ m < gd lens i)) ∧ w' = w := by
  have HI : Hid _ := index_any g n c bx m lens w hn hn2 hL hb
  go_enter Tryd.func58, Tryd.ntmps58
  go_wp2_with fail
  refine Calls.mono HI.out ?_
  rintro e w' ⟨r, rfl, hr, rfl⟩
  rcases hr with ⟨rfl, h1⟩ | ⟨h0, h1⟩
  · go_wp2_with fail
    go_ret
    exact ⟨false, by simp, Or.inl ⟨rfl, h1⟩, rfl⟩
  · go_wp2_with fail
    go_ret
    exact ⟨true, by simp, Or.inr ⟨rfl, h1⟩, rfl⟩

set_option maxRecDepth 100000 in
set_option maxHeartbeats 400000 in
theorem clone_any (g o n cap : Nat) (cs : List Nat) (w : World) (hn : cs.length = n) (hn0 : 0 < n) (hn2 : n ≤ 300) (hL : IntsAt w g o (ni cs)) :
    Calls Tryd.prog 56 #[.slice (some ⟨g, o, none⟩) n cap] w fun e w' => ∃ ga ca, e = .returned (.slice (some ⟨ga, 0, none⟩) n ca) ∧ w'.ownsRow w.heap.size 3 1 (.slice (some ⟨ga, 0, none⟩) n ca) n (iv cs) ∧ Below w.heap.size w w' := by
  obtain ⟨i0, hi, hz0, hz1, hz2⟩ := info_parts info3
  have hg := hL.lt
  have HN : Hid (cs.length = n) := hn; clear hn
  have hnil : ∀ w : World, (binOp .eql 36 (.slice (some ⟨g, o, none⟩) n cap) (.slice none 0 0)).run Tryd.prog w = .ok (.bool false) w := fun w => Lib.run_eql_slice_nil (P := Tryd.prog) w 36 3 (some ⟨g, o, none⟩) n cap 0 0 Tryd.underlying36
  go_enter Tryd.func56, Tryd.ntmps56
  go_wp2_with (at_builtin; refine wpList_append_own _ rfl (.tmp 5) (.tmp 6) 36 rfl w.heap.size 3 i0 (.int .i64 0) 1 8 underlying36 hi hz0 hz1 hz2 rfl (by decide) (.slice (some ⟨w.heap.size, 0, none⟩) 0 0) 0 [] rfl ?own ⟨g, o, none⟩ n cap (iv cs) rfl ?len ?c1 ?c2 ?b1 ?b2 ?b3 ?grow)
  case own => exact ⟨rfl, Or.inr ⟨w.heap.size, 0, #[], rfl, Nat.le_refl _, heap_alloc_new _ _, by omega, by unfold maxLen; omega, rfl, rfl⟩⟩
  case len => rw [iv_length, HN.out, Nat.mul_one]
  case c1 =>
    intro j u hj
    have hjl : j < cs.length := by
      by_cases hj2 : j < cs.length
      · exact hj2
      · rw [List.getElem?_eq_none (by rw [iv_length]; omega)] at hj; cases hj
    have hc := hL.cell j (by rw [ni_length]; exact hjl)
    have e : u = .int .i64 ((ni cs).getD j 0) := by
      have : (iv cs)[j]? = some (.int .i64 ((ni cs).getD j 0)) := by simp [iv, List.getD, ni, hjl]
      rw [this] at hj
      simpa using hj.symm
    rw [e, ← hc]
    have ea : (⟨g, o, none⟩ : Addr).add j = ⟨g, o + j, none⟩ := by simp [Addr.add]
    rw [ea]
    exact World.cell?_of_block (heap_alloc_old hg _)
  case c2 =>
    intro u hu
    simp only [iv, List.mem_map] at hu
    obtain ⟨_, _, rfl⟩ := hu
    rfl
  case b1 => unfold maxLen; omega
  case b2 => omega
  case b3 => simp
  case grow =>
    intro v' w5 ho5 hg5 _
    obtain ⟨g5, c5, rfl⟩ : ∃ g cap', v' = .slice (some ⟨g, 0, none⟩) n cap' := by
      rcases ho5.2 with ⟨_, h⟩ | ⟨g, cap', _, h, _⟩
      · omega
      · exact ⟨g, cap', h⟩
    (try rw [Nat.zero_add] at ho5)
    have hb5 : Below w.heap.size w w5 := ((Below.refl _ w).alloc (Nat.le_refl _) _).grown hg5 (by simp) (fun q e => by simp [Value.ownBlock] at e; omega)
    go_wp2_with fail
    go_ret
    exact ⟨g5, c5, rfl, ho5, hb5⟩

end Go.Proofs.YtdpobjgfnhjagaaDoor

namespace Go.Proofs.YtdpobjgfnhjagaaDoor
open Go.RowKit

theorem sum_sumTo (l : List Nat) : l.sum = sumTo (gd l) l.length := by
  have key : ∀ n, n ≤ l.length → (l.take n).sum = sumTo (gd l) n := by
    intro n
    induction n with
    | zero => intro _; rfl
    | succ n ih =>
      intro hn
      rw [List.take_succ_eq_append_getElem (by omega), List.sum_append, ih (by omega)]
      simp [sumTo, gd, List.getD, show n < l.length by omega]
  have := key l.length (Nat.le_refl _)
  rwa [List.take_length] at this

theorem flat_less (ws : List Nat) (h : posN ws < ws.sum) : (flatK ws ws.length).sum < ws.sum := by
  rw [sum_sumTo] at h
  rw [sum_sumTo, sum_sumTo ws, flatK_length]
  have e1 : sumTo (gd (flatK ws ws.length)) ws.length = sumTo (fun i => (gd ws i + 1) / 2) ws.length := sumTo_congr _ _ _ fun i hi => by rw [gd_flatK _ _ _ hi, if_pos hi]
  have e2 : sumTo (fun i => (gd ws i + 1) / 2 + gd ws i / 2) ws.length = sumTo (gd ws) ws.length := sumTo_congr _ _ _ fun i _ => by omega
  have e3 : sumTo (gd ws) ws.length ≤ sumTo (fun i => (if gd ws i = 0 then 0 else 1) + (gd ws i / 2 + gd ws i / 2)) ws.length := sumTo_le _ _ _ fun i _ => by split <;> omega
  rw [sumTo_add] at e2
  rw [sumTo_add, sumTo_add] at e3
  unfold posN at h
  rw [e1]
  omega
theorem flat_le (ws : List Nat) : (flatK ws ws.length).sum ≤ ws.sum := by
  rw [sum_sumTo, sum_sumTo ws, flatK_length]
  refine sumTo_le _ _ _ fun i hi => ?_
  rw [gd_flatK _ _ _ hi, if_pos hi]
  omega
theorem gd_le_sum (l : List Nat) (i : Nat) : gd l i ≤ l.sum := by
  by_cases h : i < l.length
  · have e : gd l i = l[i] := by simp [gd, List.getD, h]
    rw [e]
    have key : ∀ (m : List Nat) (x : Nat), x ∈ m → x ≤ m.sum := by
      intro m x
      induction m with
      | nil => intro h; simp at h
      | cons a r ih =>
        intro h
        rcases List.mem_cons.1 h with rfl | h
        · simp
        · have := ih h
          simp only [List.sum_cons]; omega
    exact key l _ (List.getElem_mem h)
  · rw [gd_big l i (by omega)]; omega

/-- The lengths that are made for symbols that come so often. -/
structure LenOk (cs lens : List Nat) (m : Nat) : Prop where
  len : lens.length = cs.length
  pos : ∀ i, i < cs.length → (gd lens i = 0 ↔ gd cs i = 0)
  le : ∀ i, i < cs.length → gd lens i ≤ m
  one : posN cs = 1 → ∀ i, i < cs.length → gd lens i ≤ 1
  kraft : 2 ≤ posN cs → ∀ M, (∀ i, i < cs.length → gd lens i ≤ M) → sumTo (fun i => if gd lens i = 0 then 0 else 2 ^ (M - gd lens i)) cs.length = 2 ^ M
  few : 2 ≤ posN cs → ∀ i, i < cs.length → gd lens i + 1 ≤ posN cs

/-- What the numbers in a block add up to. -/
def mSum (w : World) (g n : Nat) : Nat := sumTo (fun i => match w.cell? ⟨g, i, none⟩ with | some (.int _ v) => v.toNat | _ => 0) n
theorem mSum_own {base g n cap : Nat} {w : World} {L : List Nat} (h : w.ownsRow base 3 1 (.slice (some ⟨g, 0, none⟩) n cap) n (iv L)) (hn : L.length = n) : mSum w g n = L.sum := by
  unfold mSum
  rw [sum_sumTo, hn]
  refine sumTo_congr _ _ _ fun i hi => ?_
  rw [owns3_cell h i (by omega)]
  simp

theorem posN_eq (a b : List Nat) (hl : a.length = b.length) (h : ∀ i, i < a.length → (gd a i = 0 ↔ gd b i = 0)) : posN a = posN b := by
  unfold posN
  rw [hl]
  refine sumTo_congr _ _ _ fun i hi => ?_
  have := h i (by omega)
  by_cases c : gd a i = 0
  · rw [if_pos c, if_pos (this.1 c)]
  · rw [if_neg c, if_neg (fun e => c (this.2 e))]
theorem posN_le (a : List Nat) : posN a ≤ a.length := by
  unfold posN
  generalize a.length = n
  induction n with
  | zero => exact Nat.le_refl _
  | succ n ih => simp only [sumTo]; split <;> omega

set_option maxRecDepth 100000 in
set_option maxHeartbeats 1000000 in
theorem lengths_any (g o n cap m : Nat) (cs : List Nat) (w : World) (hn : cs.length = n) (hn0 : 0 < n) (hn2 : n ≤ 300) (hL : IntsAt w g o (ni cs)) (hsum : cs.sum ≤ 1000000) (hm : 1 ≤ m) (hm2 : m ≤ 15) (hfib : n < fibo (m + 2)) :
    Calls Tryd.prog 37 #[.slice (some ⟨g, o, none⟩) n cap, .int .i64 (m : Int)] w fun e w' => ∃ gk c lens, e = .returned (.slice (some ⟨gk, 0, none⟩) n c) ∧ n ≤ c ∧ LenOk cs lens m ∧ IntsAt w' gk 0 (ni lens) ∧ w.heap.size ≤ gk ∧ (∃ cur, w'.heap[gk]? = some (.cells cur 3 (0, 0))) ∧ Below w.heap.size w w' := by
  have hg := hL.lt
  have hL1 : IntsAt (w.alloc (.cells #[.int .i64 (m : Int)] 3)) g o (ni cs) := hL.below ((Below.refl _ w).alloc (Nat.le_refl _) _) hg
  have HN : Hid (cs.length = n) := hn; clear hn
  have HF : Hid (n < fibo (m + 2)) := hfib; clear hfib
  go_enter Tryd.func37, Tryd.ntmps37
  go_wp2_with fail
  refine (clone_any g o n cap cs _ HN.out hn0 hn2 hL1).mono ?_
  rintro e w1 ⟨ga, ca, rfl, ho, hb⟩
  have hs0 : (w.alloc (.cells #[.int .i64 (m : Int)] 3)).heap.size = w.heap.size + 1 := by simp
  rw [hs0] at ho hb
  have hbx : w1.cell? ⟨w.heap.size, 0, none⟩ = some (.int .i64 (m : Int)) := by
    rw [hb.cell (p := ⟨w.heap.size, 0, none⟩) (by show w.heap.size < w.heap.size + 1; omega)]
    exact cell_of_heap (heap_alloc_new _ _) 0
  have hb1 : Below w.heap.size w w1 := ((Below.refl _ w).alloc (Nat.le_refl _) _).trans (hb.mono (by omega))
  have hga := owns_block ho (g := ga) rfl
  have HO : Hid (w1.ownsRow (w.heap.size + 1) 3 1 (.slice (some ⟨ga, 0, none⟩) n ca) n (iv cs)) := ho; clear ho hb hs0
  go_wp2_with fail
  go_loopw [6] (fun _ wr => ∃ ws : List Nat, Hid (ws.length = n) ∧ Hid (∀ i, i < n → (gd ws i = 0 ↔ gd cs i = 0)) ∧ ws.sum ≤ 1000000 ∧ Hid (wr.ownsRow (w.heap.size + 1) 3 1 (.slice (some ⟨ga, 0, none⟩) n ca) n (iv ws)) ∧ wr.cell? ⟨w.heap.size, 0, none⟩ = some (.int .i64 (m : Int)) ∧ Below w.heap.size w wr) (fun _ wr => mSum wr ga n)
  case atStart => exact ⟨cs, HN, fun i _ => Iff.rfl, hsum, HO, hbx, hb1⟩
  case round =>
    obtain ⟨ws, hwl, hwz, hws, hO, hbr, hbel⟩ := hrel
    have hI := IntsAt.of_owns hO.out
    have hgl := owns_block hO.out (g := ga) rfl
    have hms := mSum_own hO.out hwl.out
    have HMS : Hid _ := hms; clear hms
    go_wp2_with fail
    refine (depths_any ga 0 n ca ws wr hwl.out hn0 hn2 hI hws).mono ?_
    rintro e w2 ⟨gk, c, lens, rfl, hnc, hdep, hI2, hgk, hx, hcur, hb2⟩
    have hO2 : Hid (w2.ownsRow (w.heap.size + 1) 3 1 (.slice (some ⟨ga, 0, none⟩) n ca) n (iv ws)) := owns_keep hO.out (fun q hq hs => hb2.block q hs)
    have hbx2 : w2.cell? ⟨w.heap.size, 0, none⟩ = some (.int .i64 (m : Int)) := by
      rw [hb2.cell (p := ⟨w.heap.size, 0, none⟩) (lt_of_cell hbr)]; exact hbr
    have hbel2 : Below w.heap.size w w2 := hbel.trans (hb2.mono hbel.size)
    have hcalls := contains_any gk n c w.heap.size m lens w2 (by rw [hdep.len]; exact hwl.out) hn2 hI2 hbx2
    have HC : Hid _ := hcalls; clear hcalls
    go_wp2_with fail
    refine Calls.mono HC.out ?_
    rintro e w3 ⟨r, rfl, hr, rfl⟩
    have hpn : posN ws = posN cs := posN_eq ws cs (by rw [hwl.out, HN.out]) (fun i hi => hwz.out i (by rw [← hwl.out]; exact hi))
    have HP : Hid _ := hpn; clear hpn
    rcases hr with ⟨rfl, hall⟩ | ⟨rfl, q, hq, hqm⟩
    · have hsz := hbel.size
      go_wp2_with fail
      go_ret
      have hl := hwl.out
      have hc := HN.out
      have hp := HP.out
      refine ⟨gk, c, lens, rfl, hnc, ⟨by rw [hdep.len, hl, hc], fun i hi => (hdep.pos i (by omega)).trans (hwz.out i (by omega)), fun i hi => hall i (by omega), fun e i hi => hdep.one (by omega) i (by omega), fun e M hM => ?_, fun e i hi => ?_⟩, hI2, by omega, hcur, hbel2⟩
      · have := hdep.kraft (by omega) M (fun i hi => hM i (by omega))
        rw [hl] at this
        rw [hc]; exact this
      · obtain ⟨h, q1, _, q3⟩ := hdep.le (by omega)
        have := q1 i (by omega)
        omega
    · have hl := hwl.out
      have hless : (flatK ws n).sum < ws.sum := by
        have h2 : 2 ≤ posN ws := by
          rcases Nat.lt_or_ge (posN ws) 2 with h2 | h2
          · rcases Nat.lt_or_ge (posN ws) 1 with h3 | h3
            · have h4 : gd lens q = 0 := by
                refine (hdep.pos q (by omega)).2 ?_
                rcases Nat.eq_zero_or_pos (gd ws q) with h5 | h5
                · exact h5
                · have : 1 ≤ posN ws := by
                    unfold posN
                    have e1 := sumTo_le (fun i => if i = q then 1 else 0) (fun i => if gd ws i = 0 then 0 else 1) ws.length (fun i _ => by
                      by_cases e : i = q
                      · subst e; rw [if_pos rfl, if_neg (by omega)]; exact Nat.le_refl _
                      · rw [if_neg e]; omega)
                    rw [sumTo_one, if_pos (by omega)] at e1
                    exact e1
                  omega
              omega
            · have := hdep.one (by omega) q (by omega)
              omega
          · exact h2
        obtain ⟨h, q1, q2, _⟩ := hdep.le h2
        have h5 := q1 q (by omega)
        have h6 : fibo (m + 2) ≤ fibo (h + 1) := by
          have := fibo_mono (m + 2) (h + 1 - (m + 2))
          rwa [show m + 2 + (h + 1 - (m + 2)) = h + 1 by omega] at this
        have h7 := posN_le ws
        have h8 := HF.out
        have := flat_less ws (by omega)
        rw [hl] at this
        exact this
      have HLS : Hid _ := hless; clear hless
      have hga2 : ga ≠ w.heap.size := by omega
      clear hl hdep
      go_wp2_with fail
      refine (flatten_any (w.heap.size + 1) ga n ca ws w3 hwl.out hn2 hO2.out (fun i => Nat.le_trans (gd_le_sum ws i) hws)).mono ?_
      rintro e w4 ⟨rfl, hO4, hf4⟩
      go_wp2_with fail
      go_roundw
      case rel =>
        have hl := hwl.out
        refine ⟨flatK ws n, by show (flatK ws n).length = n; rw [flatK_length]; exact hl, fun i hi => ?_, ?_, hO4, ?_, ?_⟩
        · rw [gd_flatK _ _ _ (by omega), if_pos hi]
          have := hwz.out i hi
          constructor
          · intro e; exact this.1 (by omega)
          · intro e; have := this.2 e; omega
        · have := HLS.out
          omega
        · rw [hf4.cell (p := ⟨w.heap.size, 0, none⟩) (lt_of_cell hbx2) (by simp [One]; omega)]
          exact hbx2
        · exact hbel2.trans (hf4.below hbel2.size (fun k hk => by simp [One] at hk; omega))
      case measure =>
        have e1 := mSum_own hO4 (by rw [flatK_length]; exact hwl.out)
        have := HLS.out
        have := HMS.out
        omega

end Go.Proofs.YtdpobjgfnhjagaaDoor

namespace Go.Proofs.YtdpobjgfnhjagaaDoor
open Go.RowKit

/-- A table of a function's first m values. -/
def tab (f : Nat → Nat) (m : Nat) : List Nat := (List.range m).map f
theorem tab_length (f : Nat → Nat) (m : Nat) : (tab f m).length = m := by simp [tab]
theorem gd_tab (f : Nat → Nat) (m i : Nat) (hi : i < m) : gd (tab f m) i = f i := by simp [gd, tab, List.getD, hi]
theorem tab_congr (f g : Nat → Nat) (m : Nat) (h : ∀ i, i < m → f i = g i) : tab f m = tab g m := gd_ext _ _ (by simp [tab]) fun i hi => by
  rw [tab_length] at hi
  rw [gd_tab _ _ _ hi, gd_tab _ _ _ hi, h i hi]
theorem tab_set (f g : Nat → Nat) (m k v : Nat) (hk : k < m) (hv : g k = v) (h : ∀ i, i < m → i ≠ k → f i = g i) : (tab f m).set k v = tab g m := gd_ext _ _ (by simp [tab]) fun i hi => by
  rw [List.length_set, tab_length] at hi
  rw [gd_set _ _ _ _ (by rw [tab_length]; exact hk), gd_tab _ _ _ hi, gd_tab _ _ _ hi]
  by_cases e : i = k
  · rw [if_pos e, e, hv]
  · rw [if_neg e, h i hi e]
theorem tab_zero (m : Nat) : List.replicate m 0 = tab (fun _ => 0) m := gd_ext _ _ (by simp [tab]) fun i hi => by
  rw [List.length_replicate] at hi
  rw [gd_replicate, gd_tab _ _ _ hi]

/-- How many codes of a length there are; the first code of a length. -/
def cnt1 (lens : List Nat) (n : Nat) : Nat := if n = 0 then 0 else lens.count n
def frst (lens : List Nat) : Nat → Nat
  | 0 => 0
  | n + 1 => 2 * (frst lens n + cnt1 lens n)
theorem frst_le (lens : List Nat) (h : lens.length ≤ 320) (n : Nat) : frst lens n + 640 ≤ 640 * 2 ^ n := by
  induction n with
  | zero => simp [frst]
  | succ n ih =>
    have : cnt1 lens n ≤ 320 := by
      unfold cnt1
      split
      · omega
      · exact Nat.le_trans List.count_le_length h
    simp only [frst]
    rw [Nat.pow_succ]
    omega
theorem frst_firstC (lens : List Nat) (hL : ∀ x ∈ lens, x < 16) (hlen : lens.length ≤ 320) (n : Nat) (hn : n ≤ 16) : ((frst lens n : Nat) : Int) = firstC (mkC lens).cs n := by
  induction n with
  | zero => rfl
  | succ n ih =>
    simp only [frst, firstC]
    rw [← ih (by omega)]
    have : ((cnt1 lens n : Nat) : Int) = (mkC lens).cs.getD n 0 := by
      unfold cnt1
      by_cases h : n = 0
      · rw [if_pos h, h, (mk_spec lens hL hlen).1.z0]; rfl
      · rw [if_neg h, cs_count lens hL hlen n (by omega) (by omega)]
    rw [← this]
    push_cast
    omega
/-- The word of a symbol. -/
def wordOf (lens : List Nat) (s : Nat) : Nat := if gd lens s = 0 then 0 else frst lens (gd lens s) + (lens.take s).count (gd lens s)
theorem wordOf_code (lens : List Nat) (hL : ∀ x ∈ lens, x < 16) (hlen : lens.length ≤ 320) (s : Nat) (hs : s < lens.length) (h0 : gd lens s ≠ 0) : wordOf lens s = codeOf lens s := by
  unfold wordOf codeOf
  rw [if_neg h0]
  have hm : gd lens s ∈ lens := by
    have e : gd lens s = lens[s] := by simp [gd, List.getD, hs]
    rw [e]; exact List.getElem_mem hs
  rw [show lens.getD s 0 = gd lens s from rfl, ← frst_firstC lens hL hlen _ (by have := hL _ hm; omega), Int.toNat_natCast]

theorem gd_lt {l : List Nat} {b : Nat} (h : ∀ x ∈ l, x < b) (hb : 0 < b) (q : Nat) : gd l q < b := by
  by_cases hq : q < l.length
  · have e : gd l q = l[q] := by simp [gd, List.getD, hq]
    rw [e]; exact h _ (List.getElem_mem hq)
  · rw [gd_big l q (by omega)]; exact hb

theorem count_take (lens : List Nat) (k n : Nat) (hk : k < lens.length) : (lens.take (k + 1)).count n = (lens.take k).count n + if n = gd lens k then 1 else 0 := by
  have e : gd lens k = lens[k] := by simp [gd, List.getD, hk]
  rw [List.take_succ_eq_append_getElem hk, List.count_append, e]
  by_cases c : n = lens[k]
  · rw [if_pos c, c]; simp
  · rw [if_neg c]; simp [List.count_singleton]; exact fun h => c h.symm

set_option maxRecDepth 100000 in
set_option maxHeartbeats 2000000 in
theorem words_any (g o n cap : Nat) (lens : List Nat) (w : World) (hn : lens.length = n) (hn2 : n ≤ 320) (hx : ∀ x ∈ lens, x < 16) (hL : IntsAt w g o (ni lens)) :
    Calls Tryd.prog 55 #[.slice (some ⟨g, o, none⟩) n cap] w fun e w' => e = .returned (.slice (some ⟨w.heap.size + 2, 0, none⟩) n n) ∧ w'.heap[w.heap.size + 2]? = some (.cells (ints (ni (tab (wordOf lens) n))) 3 (0, 0)) ∧ Below w.heap.size w w' := by
  obtain ⟨i0, hi, hz0, hz1, hz2⟩ := info_parts info3
  have hg := hL.lt
  have HN : Hid (lens.length = n) := hn
  have hx16 : ∀ i, gd lens i < 16 := fun i => gd_lt hx (by omega) i
  have hcl : ∀ k m, (lens.take k).count m ≤ 320 := fun k m => by
    have h1 : (lens.take k).count m ≤ (lens.take k).length := List.count_le_length
    have h2 : (lens.take k).length ≤ lens.length := by rw [List.length_take]; omega
    omega
  have hfr := fun j => frst_le lens (by omega) j
  clear hn
  go_enter Tryd.func55, Tryd.ntmps55
  go_wp2_with fail
  go_loopw [13] (fun i wr => ∃ k : Nat, k ≤ n ∧ i = .int .i64 k ∧ wr.heap[w.heap.size]? = some (.cells (ints (ni (tab (fun m => (lens.take k).count m) 16))) 112 (0, 0)) ∧ wr.heap[w.heap.size + 1]? = some (.cells (ints (ni (tab (fun _ => 0) 16))) 112 (0, 0)) ∧ Hid (wr.heap.size = w.heap.size + 2) ∧ Below w.heap.size w wr) (fun i _ => n - (intOf i).toNat)
  case atStart =>
    refine ⟨0, by omega, rfl, ?_, ?_, by simp [Hid], ((Below.refl _ w).alloc (Nat.le_refl _) _).alloc (by simp) _⟩
    · rw [heap_alloc_old (by simp), heap_alloc_new]
      rfl
    · have := heap_alloc_new (w.alloc (.cells (ints (ni (tab (fun _ => 0) 16))) 112)) (.cells (ints (ni (tab (fun _ => 0) 16))) 112)
      rw [show (w.alloc (.cells (ints (ni (tab (fun _ => 0) 16))) 112)).heap.size = w.heap.size + 1 by simp] at this
      exact this
  case round =>
    obtain ⟨k, hk, rfl, h1, h2, hsz, hbel⟩ := hrel
    by_cases hlt : k < n
    · have hgc : wr.cell? ⟨g, o + k, none⟩ = some (.int .i64 ((gd lens k : Nat) : Int)) := by
        have := (hL.below hbel hg).cell k (by rw [ni_length, HN.out]; exact hlt)
        rw [ni_getD] at this
        exact this
      have hxk := hx16 k
      have hct := hcl k (gd lens k)
      have hc1 := cell_ints h1 (gd lens k) (by rw [ni_length, tab_length]; exact hxk)
      rw [ni_getD, show (tab (fun m => (lens.take k).count m) 16).getD (gd lens k) 0 = (lens.take k).count (gd lens k) from gd_tab _ _ _ hxk] at hc1
      have hset := set_ints h1 (gd lens k) (((lens.take k).count (gd lens k) + 1 : Nat) : Int)
      rw [ni_set, tab_set _ (fun m => (lens.take (k + 1)).count m) 16 _ _ hxk (by rw [count_take _ _ _ (by rw [HN.out]; exact hlt), if_pos rfl]) (fun i _ hne => by rw [count_take _ _ _ (by rw [HN.out]; exact hlt), if_neg hne]; rfl)] at hset
      have hfz := free_of_heap h1
      generalize (lens.take k).count (gd lens k) = cv at hc1 hset hct
      generalize gd lens k = x at hgc hxk hc1 hset
      have HS : Hid _ := hset; clear hset
      have H1 : Hid _ := h1; clear h1
      have H2 : Hid _ := h2; clear h2
      have hxi : (x : Int) < 16 := by omega
      go_wp2_with fail
      go_roundw
      case rel => 
        refine ⟨k + 1, by omega, by go_num, HS.out, (heap_set_other (by omega) _ _).trans H2.out, ?_, hbel.setCell (p := ⟨w.heap.size, x, none⟩) (Nat.le_refl _) _⟩
        have := hsz.out
        simpa [Hid, World.setCell] using this
      case measure => simp [intOf]; omega
    · have : k = n := by omega
      subst this
      have hck := HN.out
      rw [show lens.take k = lens from List.take_of_length_le (by omega)] at h1
      have c00 := cell_ints h1 0 (by rw [ni_length, tab_length]; omega)
      have hset := set_ints h1 0 ((0 : Nat) : Int)
      rw [ni_set, tab_set _ (cnt1 lens) 16 0 0 (by omega) rfl (fun i _ hne => by unfold cnt1; rw [if_neg hne])] at hset
      have hfz := free_of_heap h1
      obtain ⟨z0, hz00⟩ : ∃ z0, wr.cell? ⟨w.heap.size, 0, none⟩ = some (.int .i64 z0) := ⟨_, c00⟩
      clear c00 hck
      have HS : Hid _ := hset; clear hset
      have H1 : Hid _ := h1; clear h1
      have H2 : Hid _ := h2; clear h2
      go_wp2_with fail
      go_loopw [7] (fun jv w2 => ∃ j : Nat, 1 ≤ j ∧ j ≤ 16 ∧ jv = .int .i64 j ∧ w2.heap[w.heap.size]? = some (.cells (ints (ni (tab (cnt1 lens) 16))) 112 (0, 0)) ∧ w2.heap[w.heap.size + 1]? = some (.cells (ints (ni (tab (fun m => if m < j then frst lens m else 0) 16))) 112 (0, 0)) ∧ Hid (w2.heap.size = w.heap.size + 2) ∧ Below w.heap.size w w2) (fun jv _ => 16 - (intOf jv).toNat)
      case atStart =>
        refine ⟨1, by omega, by omega, rfl, HS.out, ?_, by have := hsz.out; simpa [Hid, World.setCell] using this, hbel.setCell (p := ⟨w.heap.size, 0, none⟩) (Nat.le_refl _) _⟩
        rw [heap_set_other (by omega), H2.out, tab_congr (fun _ => 0) (fun m => if m < 1 then frst lens m else 0) 16 (fun i _ => by
          by_cases c : i < 1
          · have : i = 0 := by omega
            subst this
            rfl
          · rw [if_neg c])]
      case round =>
        obtain ⟨j, hj1, hj2, rfl, h1, h2, hsz2, hbel2⟩ := hrel
        by_cases hlt2 : j < 16
        · obtain ⟨p, hp⟩ : ∃ p, j = p + 1 := ⟨j - 1, by omega⟩
          subst hp
          have ca := cell_ints h2 p (by rw [ni_length, tab_length]; omega)
          rw [ni_getD, show (tab (fun m => if m < p + 1 then frst lens m else 0) 16).getD p 0 = frst lens p from (gd_tab _ _ _ (by omega)).trans (if_pos (by omega))] at ca
          have cb := cell_ints h1 p (by rw [ni_length, tab_length]; omega)
          rw [ni_getD, show (tab (cnt1 lens) 16).getD p 0 = cnt1 lens p from gd_tab _ _ _ (by omega)] at cb
          have cc := cell_ints h2 (p + 1) (by rw [ni_length, tab_length]; omega)
          obtain ⟨z1, cc1⟩ : ∃ z1, wr.cell? ⟨w.heap.size + 1, p + 1, none⟩ = some (.int .i64 z1) := ⟨_, cc⟩
          clear cc
          have hset := set_ints h2 (p + 1) ((2 * (frst lens p + cnt1 lens p) : Nat) : Int)
          rw [ni_set, tab_set _ (fun m => if m < p + 1 + 1 then frst lens m else 0) 16 (p + 1) _ (by omega) (by rw [if_pos (by omega)]; rfl) (fun i _ hne => by
            by_cases c : i < p + 1
            · rw [if_pos c, if_pos (by omega)]
            · rw [if_neg c, if_neg (by omega)])] at hset
          have hfz2 := free_of_heap h2
          have hfp := hfr p
          have hpow : 2 ^ p ≤ 2 ^ 15 := Nat.pow_le_pow_right (by omega) (by omega)
          have hcp : cnt1 lens p ≤ 320 := by
            unfold cnt1
            split
            · omega
            · have := hcl k p
              rw [List.take_of_length_le (by rw [HN.out]; omega)] at this
              exact this
          generalize frst lens p = f at ca hset hfp
          generalize cnt1 lens p = c at cb hset hcp
          have hf2 : f ≤ 21000000 := by omega
          clear hfp hpow
          have HS2 : Hid _ := hset; clear hset
          have K1 : Hid _ := h1; clear h1
          have K2 : Hid _ := h2; clear h2
          have e1 : ((p + 1 : Nat) : Int) - 1 = (p : Int) := by omega
          have hpi : (p : Int) < 16 := by omega
          have hpi2 : (p : Int) + 1 < 16 := by omega
          have hw1 : IntKind.i64.wrap (p : Int) = (p : Int) := by rw [IntKind.wrap_i64]; omega
          have hw2 : IntKind.i64.wrap ((f : Int) + (c : Int)) = (f : Int) + (c : Int) := by rw [IntKind.wrap_i64]; omega
          have hw3 : IntKind.i64.wrap (2 * ((f : Int) + (c : Int))) = 2 * ((f : Int) + (c : Int)) := by rw [IntKind.wrap_i64]; omega
          go_wp2_with fail
          go_region
          go_wp2_with fail
          go_roundw
          case rel =>
            refine ⟨p + 1 + 1, by omega, by omega, by go_num, (heap_set_other (by omega) _ _).trans K1.out, ?_, by have := hsz2.out; simpa [Hid, World.setCell] using this, (hbel2.setCell (p := ⟨w.heap.size + 1, p + 1, none⟩) (Nat.le_add_right _ _) _).drew⟩
            have := HS2.out
            rw [show ((2 * (f + c) : Nat) : Int) = 2 * ((f : Int) + (c : Int)) by simp] at this
            exact this
          case measure => simp [intOf]; omega
        · have : j = 16 := by omega
          subst this
          have K1 : Hid _ := h1; clear h1
          rw [tab_congr (fun m => if m < 16 then frst lens m else 0) (fun m => if m = 0 then 0 else frst lens m + (lens.take 0).count m) 16 (fun i hi => by
            rw [if_pos hi]
            by_cases c : i = 0
            · rw [if_pos c, c]; rfl
            · rw [if_neg c]; simp)] at h2
          have K2 : Hid _ := h2; clear h2
          go_wp2_with (at_make; refine wpList_make_full _ rfl _ _ 36 rfl (w.heap.size + 2) 3 i0 (.int .i64 0) 1 underlying36 hi hz0 hz1 .i64 .i64 k k k rfl rfl rfl rfl ?b1 ?b2 ?b3 ?go)
          case b1 => rw [hz2]; omega
          case b2 => unfold maxLen; omega
          case b3 => rw [hsz2.out]; omega
          case go =>
            intro w1 hown hg1
            have hS := owns_full hown
            rw [hsz2.out, made_zero k] at hS
            have hz0N : (List.replicate k (0 : Int)) = ni (List.replicate k 0) := by simp [ni]
            rw [hz0N, tab_zero] at hS
            have hb1 : Below w.heap.size w w1 := hbel2.grown hg1 (by rw [hsz2.out]; omega) (fun k e => by cases e)
            have hN : w1.heap[w.heap.size + 1]? = some (.cells (ints (ni (tab (fun m => if m = 0 then 0 else frst lens m + (lens.take 0).count m) 16))) 112 (0, 0)) := (hg1.block _ (by rw [hsz2.out]; omega) (by simp)).trans K2.out
            rw [hsz2.out]
            clear hown hg1 hz0N
            have HSS : Hid _ := hS; clear hS
            have HNN : Hid _ := hN; clear hN
            go_wp2_with fail
            go_loopw [45] (fun i w2 => ∃ q : Nat, q ≤ k ∧ i = .int .i64 q ∧ w2.heap[w.heap.size + 1]? = some (.cells (ints (ni (tab (fun m => if m = 0 then 0 else frst lens m + (lens.take q).count m) 16))) 112 (0, 0)) ∧ w2.heap[w.heap.size + 2]? = some (.cells (ints (ni (tab (fun i => if i < q then wordOf lens i else 0) k))) 3 (0, 0)) ∧ Below w.heap.size w w2) (fun i _ => k - (intOf i).toNat)
            case atStart =>
              refine ⟨0, by omega, rfl, HNN.out, ?_, hb1⟩
              rw [HSS.out, tab_congr (fun _ => 0) (fun i => if i < 0 then wordOf lens i else 0) k (fun i _ => by rw [if_neg (by omega)])]
            case round =>
              obtain ⟨q, hq, rfl, h1, h2, hbw⟩ := hrel
              by_cases hlt3 : q < k
              · have hql : q < lens.length := by rw [HN.out]; exact hlt3
                have hgc : wr.cell? ⟨g, o + q, none⟩ = some (.int .i64 ((gd lens q : Nat) : Int)) := by
                  have := (hL.below hbw hg).cell q (by rw [ni_length]; exact hql)
                  rw [ni_getD] at this
                  exact this
                have hxk := hx16 q
                have hct := hcl q (gd lens q)
                have hword : wordOf lens q = if gd lens q = 0 then 0 else frst lens (gd lens q) + (lens.take q).count (gd lens q) := rfl
                by_cases hx0 : gd lens q = 0
                · rw [hx0] at hgc
                  rw [if_pos hx0] at hword
                  have e1 : tab (fun m => if m = 0 then 0 else frst lens m + (lens.take q).count m) 16 = tab (fun m => if m = 0 then 0 else frst lens m + (lens.take (q + 1)).count m) 16 := tab_congr _ _ _ fun i _ => by
                    by_cases c : i = 0
                    · rw [if_pos c, if_pos c]
                    · rw [if_neg c, if_neg c, count_take _ _ _ hql, if_neg (by omega)]; rfl
                  have e2 : tab (fun i => if i < q then wordOf lens i else 0) k = tab (fun i => if i < q + 1 then wordOf lens i else 0) k := tab_congr _ _ _ fun i _ => by
                    by_cases c : i < q
                    · rw [if_pos c, if_pos (by omega)]
                    · by_cases c2 : i = q
                      · rw [if_neg c, if_pos (by omega), c2, hword]
                      · rw [if_neg c, if_neg (by omega)]
                  rw [e1] at h1
                  rw [e2] at h2
                  have L1 : Hid _ := h1; clear h1 e1
                  have L2 : Hid _ := h2; clear h2 e2
                  clear hword hx0 hxk hct
                  go_wp2_with fail
                  go_roundw
                  case rel => exact ⟨q + 1, by omega, by go_num, L1.out, L2.out, hbw⟩
                  case measure => simp [intOf]; omega
                · rw [if_neg hx0] at hword
                  have cn := cell_ints h1 (gd lens q) (by rw [ni_length, tab_length]; exact hxk)
                  rw [ni_getD, show (tab (fun m => if m = 0 then 0 else frst lens m + (lens.take q).count m) 16).getD (gd lens q) 0 = wordOf lens q from (gd_tab _ _ _ hxk).trans ((if_neg hx0).trans hword.symm)] at cn
                  have cw := cell_ints h2 q (by rw [ni_length, tab_length]; exact hlt3)
                  obtain ⟨z2, cw2⟩ : ∃ z2, wr.cell? ⟨w.heap.size + 2, q, none⟩ = some (.int .i64 z2) := ⟨_, cw⟩
                  have s1 := set_ints h1 (gd lens q) ((wordOf lens q + 1 : Nat) : Int)
                  rw [ni_set, tab_set _ (fun m => if m = 0 then 0 else frst lens m + (lens.take (q + 1)).count m) 16 (gd lens q) _ hxk (by rw [if_neg hx0, count_take _ _ _ hql, if_pos rfl, hword]; omega) (fun i _ hne => by
                    by_cases c : i = 0
                    · rw [if_pos c, if_pos c]
                    · rw [if_neg c, if_neg c, count_take _ _ _ hql, if_neg hne]; rfl)] at s1
                  have s2 := set_ints h2 q ((wordOf lens q : Nat) : Int)
                  rw [ni_set, tab_set _ (fun i => if i < q + 1 then wordOf lens i else 0) k q _ hlt3 (by rw [if_pos (by omega)]) (fun i _ hne => by
                    by_cases c : i < q
                    · rw [if_pos c, if_pos (by omega)]
                    · rw [if_neg c, if_neg (by omega)])] at s2
                  have fz1 := free_of_heap h1
                  have fz2 := free_of_heap h2
                  have hwb : wordOf lens q ≤ 30000000 := by
                    rw [hword]
                    have h5 := hfr (gd lens q)
                    have hpow : 2 ^ gd lens q ≤ 2 ^ 15 := Nat.pow_le_pow_right (by omega) (by omega)
                    omega
                  clear hword cw
                  generalize wordOf lens q = wd at cn s1 s2 hwb
                  generalize gd lens q = x at hgc hxk hx0 cn s1
                  have S1 : Hid (∀ W : World, W.heap[w.heap.size + 1]? = wr.heap[w.heap.size + 1]? → (W.setCell ⟨w.heap.size + 1, x, none⟩ (.int .i64 ((wd : Int) + 1))).heap[w.heap.size + 1]? = some (.cells (ints (ni (tab (fun m => if m = 0 then 0 else frst lens m + (lens.take (q + 1)).count m) 16))) 112 (0, 0))) := fun W hW => by
                    have e9 := heap_set (hW.trans h1) x (.int .i64 ((wd : Int) + 1))
                    have e8 := heap_set h1 x (.int .i64 ((wd : Int) + 1))
                    rw [e9, ← e8]
                    exact s1
                  have S2 : Hid _ := s2
                  clear s1 s2 h1
                  have L2 : Hid _ := h2; clear h2
                  have hxi : (x : Int) < 16 := by omega
                  have hx1 : (0 : Int) < (x : Int) := by omega
                  go_wp2_with fail
                  go_roundw
                  case rel =>
                    refine ⟨q + 1, by omega, by go_num, S1.out _ (heap_set_other (by omega) _ _), (heap_set_other (by omega) _ _).trans S2.out, ?_⟩
                    exact (hbw.setCell (p := ⟨w.heap.size + 2, q, none⟩) (Nat.le_add_right _ _) _).setCell (p := ⟨w.heap.size + 1, x, none⟩) (Nat.le_add_right _ _) _
                  case measure => simp [intOf]; omega
              · have : q = k := by omega
                subst this
                rw [tab_congr (fun i => if i < q then wordOf lens i else 0) (wordOf lens) q (fun i hi => if_pos hi)] at h2
                have L1 : Hid _ := h1; clear h1
                have L2 : Hid _ := h2; clear h2
                go_wp2_with fail
                go_ret
                exact ⟨rfl, L2.out, hbw⟩

end Go.Proofs.YtdpobjgfnhjagaaDoor

