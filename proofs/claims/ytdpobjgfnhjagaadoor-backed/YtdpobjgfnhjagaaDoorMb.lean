import Derived.Test.YtdpobjgfnhjagaaDoorMa
import Derived.Deep.RegionWith
namespace Go.Proofs.YtdpobjgfnhjagaaDoor
open Go.RowKit

/-- What reading and putting leave: all ahead of block B, and what lies behind it and holds no bytes. -/
structure Kp (B : Nat) (w w' : World) : Prop where
  below : Below B w w'
  other : ∀ (k : Nat) (arr : Array Value) (t : TypeId) (f : Nat × Nat), B < k → t ≠ 5 → w.heap[k]? = some (.cells arr t f) → w'.heap[k]? = some (.cells arr t f)

theorem Kp.refl (B : Nat) (w : World) : Kp B w w := ⟨Below.refl _ _, fun _ _ _ _ _ _ h => h⟩
theorem Kp.trans {B : Nat} {a b c : World} (h : Kp B a b) (k : Kp B b c) : Kp B a c := ⟨h.below.trans k.below, fun i arr t f h1 h2 h3 => k.other i arr t f h1 h2 (h.other i arr t f h1 h2 h3)⟩
theorem Kp.one {B : Nat} {w w' : World} (hB : B < w.heap.size) (f : Fr (One B) w w') : Kp B w w' :=
  ⟨f.below (by omega) (fun k hk => by simp [One] at hk; omega), fun k arr t fr h1 _ h3 => (f.block k (lt_of_heap h3) (by simp [One]; omega)).trans h3⟩
theorem Kp.put {B : Nat} {w w' : World} {ov : Value} {n : Nat} {xs : List Value} (hB : B < w.heap.size) (ho : w.ownsRow (B + 1) 5 1 ov n xs) (f : Fr (fun k => k = B ∨ ov.ownBlock = some k) w w') : Kp B w w' := by
  refine ⟨(own_up ho f).below (by omega) (fun k hk => hk), fun k arr t fr h1 h2 h3 => (f.block k (lt_of_heap h3) ?_).trans h3⟩
  rintro (hk | hk)
  · omega
  · rcases ho.2 with ⟨hv, _⟩ | ⟨g, cap, cur, hv, _, hh, _⟩
    · rw [hv] at hk; cases hk
    · rw [hv] at hk
      simp [Value.ownBlock] at hk
      subst hk
      rw [h3] at hh
      simp at hh
      exact h2 hh.2.1

/-- The list's block alone: what an append leaves. -/
theorem Env.Ok.kp {E : Env} {w w' : World} (h : E.Ok w) (k : Kp E.B w w') : E.Ok w' :=
  ⟨h.hl, h.hb, fun i hi => (k.below.cell (p := ⟨E.b, E.o + i, none⟩) h.hb).trans (h.hI i hi)⟩

/-- A code in memory, behind the reader. -/
structure CodeAt (B : Nat) (w : World) (cl : Nat) (C : Cd) (g : Nat) : Prop where
  hc : w.heap[cl]? = some (CB C.cs (.slice (some ⟨g, 0, none⟩) C.S.length C.S.length) C.lg)
  hS : w.heap[g]? = some (.cells (ints C.S) 3 (0, 0))
  hcB : B < cl
  hgB : B < g

theorem CodeAt.kp {B : Nat} {w w' : World} {cl g : Nat} {C : Cd} (h : CodeAt B w cl C g) (k : Kp B w w') : CodeAt B w' cl C g :=
  ⟨k.other _ _ _ _ h.hcB (by decide) h.hc, k.other _ _ _ _ h.hgB (by decide) h.hS, h.hcB, h.hgB⟩

/-- What a code that was made from lengths is like. -/
structure Cd.Wf (C : Cd) : Prop where
  l16 : C.cs.length = 16
  nn : ∀ i, 0 ≤ C.cs.getD i 0
  z0 : C.cs.getD 0 0 = 0
  sum : ∀ n, (C.cs.take n).sum ≤ C.S.length
  most : C.S.length ≤ 320
  lg0 : 0 ≤ C.lg
  lg15 : C.lg ≤ 15
  syms : ∀ i, 0 ≤ C.S.getD i 0 ∧ C.S.getD i 0 < 320

theorem sum_snoc (cs : List Int) (n : Nat) (h : n < cs.length) : (cs.take (n + 1)).sum = (cs.take n).sum + cs.getD n 0 := by
  rw [List.take_succ_eq_append_getElem h, List.sum_append]
  simp [List.getD, h]

theorem sum_nonneg (cs : List Int) (h : ∀ i, 0 ≤ cs.getD i 0) (n : Nat) : 0 ≤ (cs.take n).sum := by
  induction n with
  | zero => simp
  | succ n ih =>
    by_cases hn : n < cs.length
    · rw [sum_snoc cs n hn]
      have := h n
      omega
    · rw [List.take_of_length_le (by omega)] at ih ⊢
      exact ih

set_option maxHeartbeats 2000000 in
theorem read_at (E : Env) (i cl g : Nat) (C : Cd) (ov fx : Value) (w : World) (hE : E.Ok w) (h : RdAt E w i ov fx) (hC : CodeAt E.B w cl C g) (hw : C.Wf) :
    Calls Tryd.prog 83 #[.pointer (some ⟨cl, 0, none⟩), .func (Fn.func 22) #[.pointer (some ⟨E.B, 0, none⟩)] #[]] w fun r w' =>
      ((∃ v j, symAt E.I C i = .ok (v, j) ∧ r = .returned (.tuple #[.int .i64 v, .bool true]) ∧ RdAt E w' j ov fx) ∨ (symAt E.I C i = .error 2 ∧ r = stop 2) ∨ (symAt E.I C i = .error 3 ∧ r = .returned (.tuple #[.int .i64 0, .bool false]) ∧ ∃ j, RdAt E w' j ov fx)) ∧ Fr (One E.B) w w' := by
  have hB : E.B < w.heap.size := by obtain ⟨p, held, left, hh, _⟩ := id h; exact lt_of_heap hh
  go_enter Tryd.func83, Tryd.ntmps83
  go_wp2_with fail
  go_loopw [6, 7, 8, 9] (fun wd fi ah nn wr => ∃ (f n j : Nat) (word first ahead : Int), wd = .int .i64 word ∧ fi = .int .i64 first ∧ ah = .int .i64 ahead ∧ nn = .int .i64 n ∧ 1 ≤ n ∧ n ≤ 15 ∧ f + n = 17 ∧ 0 ≤ word ∧ word < 2 ^ (n - 1) ∧ 0 ≤ first ∧ first ≤ 2 * word ∧ Hid (ahead = (C.cs.take n).sum) ∧ Hid (symGo E.I C f n word first ahead j = symAt E.I C i) ∧ RdAt E wr j ov fx ∧ Fr (One E.B) w wr) (fun _ _ _ nn _ => 17 - (intOf nn).toNat)
  case atStart => 
    refine ⟨16, 1, i, 0, 0, 0, rfl, rfl, rfl, rfl, by omega, by omega, by omega, by omega, by simp, by omega, by omega, ?_, rfl, h, Fr.refl _ _⟩
    show (0 : Int) = _
    rw [sum_snoc C.cs 0 (by rw [hw.l16]; omega), hw.z0]
    simp
  case round =>
    obtain ⟨f, n, j, word, first, ahead, rfl, rfl, rfl, rfl, n1, n2, hfn, w0, w1, f0, f1, hah, hs, hr, hfr⟩ := hrel
    cases f with
    | zero => omega
    | succ f =>
      have hs1 := hs.out
      simp only [symGo] at hs1
      have hpow : (2 : Int) ^ (n - 1) ≤ 2 ^ 14 := by
        have : (2 : Nat) ^ (n - 1) ≤ 2 ^ 14 := Nat.pow_le_pow_right (by omega) (by omega)
        exact_mod_cast this
      have w2 : word < 16384 := Int.lt_of_lt_of_le w1 hpow
      have HW1 : Hid (word < 2 ^ (n - 1)) := w1; clear w1 hpow
      have a0 : 0 ≤ ahead := by rw [hah.out]; exact sum_nonneg _ hw.nn _
      have cn0 := hw.nn n
      have a1 : ahead + C.cs.getD n 0 ≤ C.S.length := by
        rw [hah.out, ← sum_snoc C.cs n (by rw [hw.l16]; omega)]; exact hw.sum _
      have hmost := hw.most
      obtain ⟨cv, hcv⟩ : ∃ cv, Hid (C.cs.getD n 0 = cv) := ⟨_, rfl⟩
      rw [hcv.out] at hs1 cn0 a1
      have HS1 : Hid _ := hs1; clear hs1
      go_wp2_with fail
      refine (bit_at E j ov fx wr (hE.one hfr) hr).mono ?_
      rintro e w3 ⟨(⟨h1, rfl, h2⟩ | ⟨h1, rfl⟩), f3⟩
      · have hk3 := Kp.one hB (hfr.trans f3)
        have hC3 := hC.kp hk3
        obtain ⟨e1, e2, e3, e4⟩ := code_cell hC3.hc hw.l16
        have hcn := e1 n (by omega)
        rw [hcv.out] at hcn
        clear e1
        have hbl := bitAt_lt E.I j
        have hs2 := HS1.out
        rw [if_neg (by omega)] at hs2
        obtain ⟨bt, hbt⟩ : ∃ bt : Int, Hid ((bitAt E.I j : Int) = bt) := ⟨_, rfl⟩
        have hb0 : 0 ≤ bt := by rw [← hbt.out]; omega
        have hb1 : bt ≤ 1 := by rw [← hbt.out]; omega
        rw [hbt.out] at hs2 ⊢
        clear hbl
        by_cases hlt : 2 * word + bt < first + cv
        · rw [if_pos hlt] at hs2
          obtain ⟨ix, hix⟩ := Int.eq_ofNat_of_zero_le (show 0 ≤ ahead + (2 * word + bt) - first by omega)
          have hsc := cell_ints hC3.hS ix (by omega)
          obtain ⟨sv, hsv⟩ : ∃ sv, Hid (C.S.getD ix 0 = sv) := ⟨_, rfl⟩
          rw [hsv.out] at hsc
          have HS2 : Hid _ := hs2; clear hs2
          have hit : ix < C.S.length := by omega
          have HIX : Hid (ahead + (2 * word + bt) - first = (ix : Int)) := hix
          go_wp2_with fail
          go_ret2
          have hs3 := HS2.out
          rw [HIX.out, Int.toNat_natCast, hsv.out] at hs3
          exact ⟨Or.inl ⟨_, _, hs3.symm, rfl, h2⟩, hfr.trans f3⟩
        · rw [if_neg hlt] at hs2
          by_cases hlg : C.lg ≤ n
          · rw [if_pos hlg] at hs2
            have HS2 : Hid _ := hs2; clear hs2
            go_wp2_with fail
            go_ret2
            exact ⟨Or.inr (Or.inr ⟨HS2.out.symm, rfl, _, h2⟩), hfr.trans f3⟩
          · rw [if_neg hlg] at hs2
            have HS2 : Hid _ := hs2; clear hs2
            have hlg15 := hw.lg15
            go_wp2_with fail
            go_roundw
            case rel =>
              refine ⟨f, n + 1, j + 1, 2 * word + bt, 2 * (first + cv), ahead + cv, rfl, rfl, rfl, by go_num, by omega, by omega, by omega, by omega, ?_, by omega, by omega, ?_, HS2.out, h2, hfr.trans f3⟩
              · have := HW1.out
                rw [show n + 1 - 1 = (n - 1) + 1 by omega, Int.pow_succ]
                omega
              · show _ = _
                rw [sum_snoc C.cs n (by rw [hw.l16]; omega), ← hah.out, hcv.out]
            case measure => simp [intOf]; omega
      · have hs2 := HS1.out
        rw [if_pos h1] at hs2
        have HS2 : Hid _ := hs2; clear hs2
        go_wp2_with fail
        exact ⟨rfl, Or.inr (Or.inl ⟨HS2.out.symm, rfl⟩), hfr.trans f3⟩

set_option maxHeartbeats 1000000 in
theorem symbol_at (E : Env) (i cl g : Nat) (C : Cd) (ov fx : Value) (w : World) (hE : E.Ok w) (h : RdAt E w i ov fx) (hC : CodeAt E.B w cl C g) (hw : C.Wf) :
    Calls Tryd.prog 72 #[.pointer (some ⟨E.B, 0, none⟩), .pointer (some ⟨cl, 0, none⟩)] w fun r w' =>
      ((∃ v j, symAt E.I C i = .ok (v, j) ∧ r = .returned (.int .i64 v) ∧ RdAt E w' j ov fx) ∨ (∃ x, symAt E.I C i = .error x ∧ r = stop x)) ∧ Fr (One E.B) w w' := by
  have hmf : ∀ (fn : Fn) (first cap : Array Value) (w : World), (Instr.makeFunc fn first cap).run Tryd.prog w = .ok (.func fn first cap) w := fun _ _ _ _ => rfl
  go_enter Tryd.func72, Tryd.ntmps72
  go_wp2_with fail
  refine (read_at E i cl g C ov fx w hE h hC hw).mono ?_
  rintro e w1 ⟨(⟨v, j, h1, rfl, h2⟩ | ⟨h1, rfl⟩ | ⟨h1, rfl, h2⟩), f1⟩
  · have H1 : Hid (symAt E.I C i = .ok (v, j)) := h1; clear h1
    go_wp2_with fail
    go_ret
    exact ⟨Or.inl ⟨v, j, H1.out, rfl, h2⟩, f1⟩
  · have H1 : Hid (symAt E.I C i = .error 2) := h1; clear h1
    go_wp2_with fail
    exact ⟨rfl, Or.inr ⟨2, H1.out, rfl⟩, f1⟩
  · have H1 : Hid (symAt E.I C i = .error 3) := h1; clear h1
    go_wp2_with (go_at_call 45; refine (giveUp_any _ _).mono ?_; rintro e w' ⟨rfl, rfl⟩)
    exact ⟨rfl, Or.inr ⟨3, H1.out, rfl⟩, f1⟩

end Go.Proofs.YtdpobjgfnhjagaaDoor

namespace Go.Proofs.YtdpobjgfnhjagaaDoor
open Go.RowKit

set_option maxHeartbeats 1000000 in
theorem steps_any (i g : Nat) (w : World) (hi : i < 30) (hg : g = 2 ∨ g = 4) :
    Calls Tryd.prog 90 #[.int .i64 i, .int .i64 g] w fun r w' => r = .returned (.tuple #[.int .i64 (stepB i g), .int .i64 (stepM i g)]) ∧ w' = w := by
  obtain ⟨hb1, hb2⟩ := step_bounds i g hi hg
  have hg1 : 2 ≤ g := by omega
  have hg2 : g ≤ 4 := by omega
  unfold stepB stepM at *
  by_cases h : i < 2 * g
  · rw [if_pos h, if_pos h]
    clear hb1 hb2 hg
    go_enter Tryd.func90, Tryd.ntmps90
    go_wp2_with fail
    go_ret2
    exact ⟨rfl, rfl⟩
  · rw [if_neg h] at hb1 hb2
    rw [if_neg h, if_neg h]
    have hq : 2 ≤ i / g := by
      rw [Nat.le_div_iff_mul_le (by omega)]; omega
    have hr : i % g < g := Nat.mod_lt _ (by omega)
    clear hg
    have HB1 : Hid ((g + i % g) * 2 ^ (i / g - 1) ≤ 24576) := hb1; clear hb1
    go_enter Tryd.func90, Tryd.ntmps90
    go_wp2_with fail
    go_ret2
    have e1 : wrap64 (((g : Int) + (i : Int) % (g : Int)) * 2 ^ (i / g - 1)) = (((g + i % g) * 2 ^ (i / g - 1) : Nat) : Int) := by
      have e2 : (((g : Int) + (i : Int) % (g : Int)) * 2 ^ (i / g - 1)) = (((g + i % g) * 2 ^ (i / g - 1) : Nat) : Int) := by simp
      rw [e2]
      have := HB1.out
      generalize (g + i % g) * 2 ^ (i / g - 1) = z at this
      exact IntWalk.wrap64_in _ (by omega)
    have e3 : ((i : Int) / (g : Int) - 1) = ((i / g - 1 : Nat) : Int) := by
      rw [Int.ofNat_sub (by omega)]; simp
    rw [← e1, ← e3]
    exact ⟨rfl, rfl⟩

set_option maxHeartbeats 400000 in
theorem Length_any (s : Nat) (w : World) (h1 : 257 ≤ s) (h2 : s ≤ 285) :
    Calls Tryd.prog 84 #[.int .i64 s] w fun r w' => r = .returned (.tuple #[.int .i64 (lenB s), .int .i64 (lenM s)]) ∧ w' = w := by
  by_cases h : s = 285
  · subst h
    go_enter Tryd.func84, Tryd.ntmps84
    go_wp2_with fail
    go_ret2
    exact ⟨rfl, rfl⟩
  · have hne : ((s : Int) == 285) = false := by simp; omega
    have hb := step_bounds (s - 257) 4 (by omega) (Or.inr rfl)
    have HB : Hid _ := hb; clear hb
    have e : ((s : Int) - 256 - 1) = ((s - 257 : Nat) : Int) := by omega
    have HE : Hid _ := e; clear e
    have e1 : (lenB s : Int) = 3 + (stepB (s - 257) 4 : Int) := by simp [lenB, h]
    have e2 : lenM s = stepM (s - 257) 4 := by simp [lenM, h]
    rw [e1, e2]
    clear e1 e2
    go_enter Tryd.func84, Tryd.ntmps84
    go_wp2_with fail
    rw [HE.out]
    refine (steps_any (s - 257) 4 w (by omega) (Or.inr rfl)).mono ?_
    rintro e w' ⟨rfl, rfl⟩
    have hb1 := HB.out.1
    have hb2 := HB.out.2
    go_wp2_with fail
    go_ret2
    exact ⟨rfl, rfl⟩

set_option maxHeartbeats 400000 in
theorem Distance_any (s : Nat) (w : World) (h1 : s < 30) :
    Calls Tryd.prog 85 #[.int .i64 s] w fun r w' => r = .returned (.tuple #[.int .i64 (distB s), .int .i64 (distM s)]) ∧ w' = w := by
  have hb := step_bounds s 2 (by omega) (Or.inl rfl)
  have hb1 := hb.1
  have e1 : (distB s : Int) = 1 + (stepB s 2 : Int) := by simp [distB]
  have e2 : distM s = stepM s 2 := rfl
  rw [e1, e2]
  clear e1 e2 hb
  go_enter Tryd.func85, Tryd.ntmps85
  go_wp2_with fail
  refine (steps_any s 2 w (by omega) (Or.inl rfl)).mono ?_
  rintro e w' ⟨rfl, rfl⟩
  go_wp2_with fail
  go_ret2
  exact ⟨rfl, rfl⟩

/-- A call's answer is this reading's. -/
def Gives {α : Type} (E : Env) (ov fx : Value) (F : Except Int (α × Nat)) (val : α → Value) (r : Ending) (w' : World) : Prop :=
  (∃ a j, F = .ok (a, j) ∧ r = .returned (val a) ∧ RdAt E w' j ov fx) ∨ (∃ x, F = .error x ∧ r = stop x)

set_option maxHeartbeats 400000 in
theorem length_at (E : Env) (i s : Nat) (ov fx : Value) (w : World) (hE : E.Ok w) (h : RdAt E w i ov fx) (h1 : 257 ≤ s) (h2 : s ≤ 285) :
    Calls Tryd.prog 73 #[.pointer (some ⟨E.B, 0, none⟩), .int .i64 s] w fun r w' => Gives E ov fx (lenE E.I s i) (fun n => .int .i64 (n : Nat)) r w' ∧ Fr (One E.B) w w' := by
  obtain ⟨hb1, hb2, hb3⟩ := len_bounds s h1 h2
  go_enter Tryd.func73, Tryd.ntmps73
  go_wp2_with fail
  refine (Length_any s w h1 h2).mono ?_
  rintro e w1 ⟨rfl, rfl⟩
  go_wp2_with fail
  refine (number_at E i (lenM s) ov fx w1 hE h (by omega)).mono ?_
  rintro e w2 ⟨(⟨g1, rfl, g2⟩ | ⟨g1, rfl⟩), f2⟩
  · have hn := numAt_lt E.I i (lenM s)
    have hp : 2 ^ lenM s ≤ 2 ^ 5 := Nat.pow_le_pow_right (by omega) hb2
    have hn2 : numAt E.I i (lenM s) < 32 := by omega
    clear hn hp
    go_wp2_with fail
    go_ret
    refine ⟨Or.inl ⟨lenB s + numAt E.I i (lenM s), i + lenM s, if_pos g1, ?_, g2⟩, f2⟩
    refine ret_int ?_
    simp
  · go_wp2_with fail
    exact ⟨rfl, Or.inr ⟨2, if_neg (by omega), rfl⟩, f2⟩

set_option maxHeartbeats 400000 in
theorem distance_at (E : Env) (i cl cd pb gd : Nat) (C : Cd) (ov fx : Value) (w : World) (hE : E.Ok w) (h : RdAt E w i ov fx) (hC : CodeAt E.B w cd C gd) (hw : C.Wf)
    (hp : w.heap[pb]? = some (.cells #[.pointer (some ⟨cl, 0, none⟩), .pointer (some ⟨cd, 0, none⟩)] 106 (0, 0))) :
    Calls Tryd.prog 75 #[.pointer (some ⟨E.B, 0, none⟩), .pointer (some ⟨pb, 0, none⟩)] w fun r w' => Gives E ov fx (distE E.I C i) (fun n => .int .i64 (n : Nat)) r w' ∧ Fr (One E.B) w w' := by
  have p0 := cell_of_heap hp 0
  have p1 := cell_of_heap hp 1
  simp at p0 p1
  clear hp
  go_enter Tryd.func75, Tryd.ntmps75
  go_wp2_with fail
  refine (symbol_at E i cd gd C ov fx w hE h hC hw).mono ?_
  rintro e w1 ⟨(⟨v, j, g1, rfl, g2⟩ | ⟨x, g1, rfl⟩), f1⟩
  · obtain ⟨k, hk⟩ := (symGo_val g1).1
    have hv := hw.syms k
    rw [← hk] at hv
    obtain ⟨s, rfl⟩ := Int.eq_ofNat_of_zero_le hv.1
    have G1 : Hid (symAt E.I C i = .ok ((s : Int), j)) := g1; clear g1 hk hv
    by_cases hs : s < 30
    · obtain ⟨hb1, hb2, hb3⟩ := dist_bounds s hs
      go_wp2_with fail
      refine (Distance_any s w1 hs).mono ?_
      rintro e w2 ⟨rfl, rfl⟩
      go_wp2_with fail
      refine (number_at E j (distM s) ov fx w2 (hE.one f1) g2 (by omega)).mono ?_
      have ed : distE E.I C i = if j + distM s ≤ 8 * E.I.length then .ok (distB s + numAt E.I j (distM s), j + distM s) else .error 2 := by
        simp only [distE, G1.out, Int.toNat_natCast]
        rw [if_neg (by omega)]
      have ED : Hid _ := ed; clear ed
      rintro e w3 ⟨(⟨g3, rfl, g4⟩ | ⟨g3, rfl⟩), f3⟩
      · have hn := numAt_lt E.I j (distM s)
        have hp : 2 ^ distM s ≤ 2 ^ 13 := Nat.pow_le_pow_right (by omega) hb2
        have hn2 : numAt E.I j (distM s) < 8192 := by omega
        clear hn hp
        go_wp2_with fail
        go_ret
        refine ⟨Or.inl ⟨distB s + numAt E.I j (distM s), j + distM s, ED.out.trans (if_pos g3), ret_int ?_, g4⟩, f1.trans f3⟩
        simp
      · go_wp2_with fail
        exact ⟨rfl, Or.inr ⟨2, ED.out.trans (if_neg (by omega)), rfl⟩, f1.trans f3⟩
    · have ed : distE E.I C i = .error 3 := by
        simp only [distE, G1.out]
        rw [if_pos (by omega)]
      have ED : Hid _ := ed; clear ed
      go_wp2_with (go_at_call 45; refine (giveUp_any _ _).mono ?_; rintro e w' ⟨rfl, rfl⟩)
      exact ⟨rfl, Or.inr ⟨3, ED.out, rfl⟩, f1⟩
  · have ed : distE E.I C i = .error x := by simp only [distE, g1]
    have ED : Hid _ := ed; clear ed g1
    go_wp2_with fail
    exact ⟨rfl, Or.inr ⟨x, ED.out, rfl⟩, f1⟩

end Go.Proofs.YtdpobjgfnhjagaaDoor

namespace Go.Proofs.YtdpobjgfnhjagaaDoor
open Go.RowKit

/-- The reader at bit i, with what came out. -/
def Rd (E : Env) (w : World) (i : Nat) (out : List UInt8) (fx : Value) : Prop :=
  ∃ ov, RdAt E w i ov fx ∧ w.ownsRow (E.B + 1) 5 1 ov out.length (bv8 out)

theorem RdAt.lt {E : Env} {w : World} {i : Nat} {ov fx : Value} (h : RdAt E w i ov fx) : E.B < w.heap.size := by
  obtain ⟨p, held, left, hh, _⟩ := h
  exact lt_of_heap hh
theorem Rd.lt {E : Env} {w : World} {i : Nat} {out : List UInt8} {fx : Value} (h : Rd E w i out fx) : E.B < w.heap.size := by
  obtain ⟨ov, h, _⟩ := h
  exact h.lt

theorem put_more (E : Env) (i : Nat) (out : List UInt8) (c : UInt8) (fx : Value) (w : World) (h : Rd E w i out fx) (hlim : E.lim ≤ 60000) (hn : (out.length : Int) < E.lim) :
    Calls Tryd.prog 66 #[.pointer (some ⟨E.B, 0, none⟩), .int .u8 (c.toNat : Int)] w fun r w' => r = .returned (.tuple #[]) ∧ Rd E w' i (out ++ [c]) fx ∧ Kp E.B w w' := by
  obtain ⟨ov, ⟨p, held, left, hh, hs⟩, ho⟩ := h
  refine (put_ok E.B p held left E.lim c.toNat out.length _ ov fx (bv8 out) w hh ho hn hlim).mono ?_
  rintro e w' ⟨rfl, ov', k1, o1, f1⟩
  refine ⟨rfl, ⟨ov', ⟨p, held, left, k1, hs⟩, ?_⟩, Kp.put (lt_of_heap hh) ho f1⟩
  rw [bv8_append, List.length_append]
  exact o1

theorem put_full (E : Env) (i : Nat) (out : List UInt8) (x : Int) (fx : Value) (w : World) (h : Rd E w i out fx) (hn : (out.length : Int) = E.lim) :
    Calls Tryd.prog 66 #[.pointer (some ⟨E.B, 0, none⟩), .int .u8 x] w fun r w' => r = stop 4 ∧ Kp E.B w w' := by
  obtain ⟨ov, ⟨p, held, left, hh, hs⟩, ho⟩ := h
  rw [← hn] at hh
  refine (put_limit E.B p held left x out.length _ ov fx (bv8 out) w (E.B + 1) hh ho).mono ?_
  rintro e w' ⟨rfl, rfl⟩
  exact ⟨rfl, Kp.one (lt_of_heap hh) (Fr.refl _ _).drew⟩

theorem put_any (E : Env) (i : Nat) (out : List UInt8) (c : UInt8) (fx : Value) (w : World) (h : Rd E w i out fx) (hlim : E.lim ≤ 60000) (hn : (out.length : Int) ≤ E.lim) :
    Calls Tryd.prog 66 #[.pointer (some ⟨E.B, 0, none⟩), .int .u8 (c.toNat : Int)] w fun r w' => (r = .returned (.tuple #[]) ∧ (out.length : Int) < E.lim ∧ Rd E w' i (out ++ [c]) fx ∧ Kp E.B w w') ∨ (r = stop 4 ∧ E.lim ≤ (out.length : Int) ∧ Kp E.B w w') := by
  by_cases hf : (out.length : Int) < E.lim
  · exact (put_more E i out c fx w h hlim hf).mono fun e w' ⟨h1, h2, h3⟩ => Or.inl ⟨h1, hf, h2, h3⟩
  · exact (put_full E i out _ fx w h (by omega)).mono fun e w' ⟨h1, h2⟩ => Or.inr ⟨h1, by omega, h2⟩

theorem Rd.one {E : Env} {w w' : World} {_i j : Nat} {out : List UInt8} {ov _fx fx' : Value} (ho : w.ownsRow (E.B + 1) 5 1 ov out.length (bv8 out)) (f : Fr (One E.B) w w') (h : RdAt E w' j ov fx') : Rd E w' j out fx' :=
  ⟨ov, h, own_one ho f⟩

theorem out_cell {w : World} {base g cap : Nat} {out : List UInt8} (ho : w.ownsRow base 5 1 (.slice (some ⟨g, 0, none⟩) out.length cap) out.length (bv8 out)) (k : Nat) (hk : k < out.length) : w.cell? ⟨g, k, none⟩ = some (.int .u8 ((out.getD k 0).toNat : Int)) := by
  rcases ho.2 with ⟨h1, _⟩ | ⟨g', cap', cur, h1, h2, h3, h4, h5, h6, h7⟩
  · cases h1
  · simp at h1
    obtain ⟨rfl, rfl⟩ := h1
    rw [cell_of_heap h3]
    have e : (cur.toList.take (out.length * 1))[k]? = (bv8 out)[k]? := by rw [h7]
    rw [List.getElem?_take, if_pos (by omega)] at e
    simp only [Array.getElem?_toList] at e
    rw [e]
    simp [bv8, hk]

set_option maxRecDepth 100000 in
set_option maxHeartbeats 2000000 in
theorem repeat_at (E : Env) (i n d : Nat) (out : List UInt8) (fx : Value) (w : World) (h : Rd E w i out fx) (hlim : E.lim ≤ 60000) (hout : (out.length : Int) ≤ E.lim) (hd : 1 ≤ d) (hd2 : d ≤ 100000) (hn : n ≤ 1000) :
    Calls Tryd.prog 74 #[.pointer (some ⟨E.B, 0, none⟩), .int .i64 n, .int .i64 d] w fun r w' =>
      ((∃ out', repE E.lim out n d = .ok out' ∧ r = .returned (.tuple #[]) ∧ Rd E w' i out' fx ∧ (out'.length : Int) ≤ E.lim) ∨ (∃ x, repE E.lim out n d = .error x ∧ r = stop x)) ∧ Kp E.B w w' := by
  obtain ⟨ov, ⟨p, held, left, hh, hs⟩, ho⟩ := id h
  obtain ⟨ao, cp, rfl⟩ := owns_slice ho
  obtain ⟨c0, c1, c2, c3, c4, c5, c6, hf⟩ := rb_cells hh
  clear hh ho
  by_cases hdo : out.length < d
  · go_enter Tryd.func74, Tryd.ntmps74
    go_wp2_with (go_at_call 45; refine (giveUp_any _ _).mono ?_; rintro e w' ⟨rfl, rfl⟩)
    exact ⟨rfl, Or.inr ⟨3, if_pos hdo, rfl⟩, Kp.refl _ _⟩
  · have hre : repE E.lim out n d = repGo E.lim d n out := if_neg hdo
    have HRE : Hid _ := hre; clear hre
    go_enter Tryd.func74, Tryd.ntmps74
    go_wp2_with fail
    clear c0 c1 c2 c3 c4 c5 c6 hf
    go_loopw [15] (fun k wr => ∃ (j : Nat) (o2 : List UInt8), j ≤ n ∧ k = .int .i64 j ∧ Hid (repGo E.lim d (n - j) o2 = repE E.lim out n d) ∧ d ≤ o2.length ∧ (o2.length : Int) ≤ E.lim ∧ Rd E wr i o2 fx ∧ Kp E.B w wr) (fun k _ => n - (intOf k).toNat)
    case atStart => exact ⟨0, out, by omega, rfl, HRE.out.symm, by omega, hout, h, Kp.refl _ _⟩
    case round =>
      obtain ⟨j, o2, hj, rfl, hr, hdl, hol, hrd, hkp⟩ := hrel
      by_cases hlt : j < n
      · have hr1 := hr.out
        rw [show n - j = (n - (j + 1)) + 1 by omega] at hr1
        simp only [repGo] at hr1
        obtain ⟨ov, ⟨p, held, left, hh, hs⟩, ho⟩ := id hrd
        obtain ⟨g, cp, rfl⟩ : ∃ g cp, ov = .slice (some ⟨g, 0, none⟩) o2.length cp := by
          rcases ho.2 with ⟨_, h2⟩ | ⟨g, cap, cur, h1, _⟩
          · omega
          · exact ⟨_, _, h1⟩
        obtain ⟨c0, c1, c2, c3, c4, c5, c6, hf⟩ := rb_cells hh
        have hoc := out_cell ho (o2.length - d) (by omega)
        obtain ⟨q, hq⟩ : ∃ q, o2.length - d = q := ⟨_, rfl⟩
        have hsub : ((o2.length : Int) - (d : Int)) = (q : Int) := by omega
        have hql : q < o2.length := by omega
        have hwq : IntKind.i64.wrap (q : Int) = (q : Int) := by rw [IntKind.wrap_i64]; omega
        have hqi : (q : Int) < (o2.length : Int) := by omega
        rw [hq] at hoc hr1
        clear hq
        generalize o2.getD q 0 = ch at hoc hr1
        clear hh ho
        have HR1 : Hid _ := hr1; clear hr1
        go_wp2_with fail
        go_region_with (go_at_call 66; refine (put_any E i o2 ch fx _ (by exact hrd) hlim hol).mono ?_; rintro e w1 (⟨rfl, hfull, r1, k1⟩ | ⟨rfl, hfull, k1⟩); rotate_left; exact ⟨rfl, Or.inr ⟨4, (HR1.out.symm.trans (if_pos hfull)), rfl⟩, hkp.trans ((Kp.one hrd.lt (Fr.refl _ _).drew).trans k1)⟩)
        all_goals
          go_wp2_with fail
          go_roundw
          case rel =>
            refine ⟨j + 1, o2 ++ [ch], by omega, by go_num, (if_neg (by omega)).symm.trans HR1.out, by simp; omega, by simp; omega, r1, hkp.trans ?_⟩
            exact (Kp.one hrd.lt (Fr.refl _ _).drew).trans k1
          case measure => simp [intOf]; omega
      · have : j = n := by omega
        subst this
        have hr1 := hr.out
        rw [Nat.sub_self] at hr1
        simp only [repGo] at hr1
        have HR1 : Hid _ := hr1; clear hr1
        go_wp2_with fail
        go_end0
        exact ⟨Or.inl ⟨o2, HR1.out.symm, rfl, hrd, hol⟩, hkp⟩

end Go.Proofs.YtdpobjgfnhjagaaDoor

namespace Go.Proofs.YtdpobjgfnhjagaaDoor
open Go.RowKit

/-- At which bit the reader stands, off memory. -/
def bitPos (B : Nat) (w : World) : Nat :=
  match w.cell? ⟨B, 1, none⟩, w.cell? ⟨B, 3, none⟩ with
  | some (.int _ p), some (.int _ l) => (8 * p - l).toNat
  | _, _ => 0

theorem bitPos_at {E : Env} {w : World} {i : Nat} {ov fx : Value} (h : RdAt E w i ov fx) : bitPos E.B w = i ∧ i ≤ 8 * E.I.length := by
  obtain ⟨p, held, left, hh, h1, h2, h3, _⟩ := h
  obtain ⟨c0, c1, c2, c3, _⟩ := rb_cells hh
  simp only [bitPos, c1, c3]
  omega

/-- A pair of codes in memory. -/
structure PairAt (B : Nat) (w : World) (pb : Nat) (L D : Cd) (cl gl cd gd : Nat) : Prop where
  hp : w.heap[pb]? = some (.cells #[.pointer (some ⟨cl, 0, none⟩), .pointer (some ⟨cd, 0, none⟩)] 106 (0, 0))
  hpB : B < pb
  hL : CodeAt B w cl L gl
  hD : CodeAt B w cd D gd

theorem PairAt.kp {B : Nat} {w w' : World} {pb cl gl cd gd : Nat} {L D : Cd} (h : PairAt B w pb L D cl gl cd gd) (k : Kp B w w') : PairAt B w' pb L D cl gl cd gd :=
  ⟨k.other _ _ _ _ h.hpB (by decide) h.hp, h.hpB, h.hL.kp k, h.hD.kp k⟩

theorem u8_of_int (v : Int) (h0 : 0 ≤ v) (h1 : v < 256) : ((UInt8.ofNat v.toNat).toNat : Int) = v := by
  simp
  omega

set_option maxRecDepth 100000 in
set_option maxHeartbeats 2000000 in
set_option maxRecDepth 100000 in
theorem symbols_at (E : Env) (i pb cl gl cd gd f : Nat) (L D : Cd) (out : List UInt8) (fx : Value) (w : World) (hE : E.Ok w) (h : Rd E w i out fx) (hP : PairAt E.B w pb L D cl gl cd gd) (hL : L.Wf) (hD : D.Wf)
    (hlim : E.lim ≤ 60000) (hout : (out.length : Int) ≤ E.lim) (hf : 8 * E.I.length < f + i) :
    Calls Tryd.prog 44 #[.pointer (some ⟨E.B, 0, none⟩), .pointer (some ⟨pb, 0, none⟩)] w fun r w' =>
      ((∃ j out', symsGo E.I L D E.lim f i out = .ok (j, out') ∧ r = .returned (.tuple #[]) ∧ Rd E w' j out' fx ∧ (out'.length : Int) ≤ E.lim ∧ i < j) ∨ (∃ x, symsGo E.I L D E.lim f i out = .error x ∧ r = stop x)) ∧ Kp E.B w w' := by
  go_enter Tryd.func44, Tryd.ntmps44
  go_wp2_with fail
  go_loopw [4] (fun _ wr => ∃ (g j : Nat) (o2 : List UInt8), Hid (symsGo E.I L D E.lim g j o2 = symsGo E.I L D E.lim f i out) ∧ 8 * E.I.length < g + j ∧ i ≤ j ∧ (o2.length : Int) ≤ E.lim ∧ Rd E wr j o2 fx ∧ Kp E.B w wr) (fun _ wr => 8 * E.I.length - bitPos E.B wr)
  case atStart => exact ⟨f, i, out, rfl, hf, Nat.le_refl _, hout, h, Kp.refl _ _⟩
  case round =>
    obtain ⟨g, j, o2, hr, hg, hij, hol, hrd, hkp⟩ := hrel
    obtain ⟨ov, hat, hown⟩ := id hrd
    obtain ⟨bp1, bp2⟩ := bitPos_at hat
    have BP1 : Hid (bitPos E.B wr = j) := bp1; clear bp1
    have hPr := hP.kp hkp
    have hEr := hE.kp hkp
    have p0 := cell_of_heap hPr.hp 0
    simp at p0
    cases g with
    | zero => omega
    | succ g =>
      have hr1 := hr.out
      simp only [symsGo] at hr1
      go_wp2_with fail
      refine (symbol_at E j cl gl L ov fx wr hEr hat hPr.hL hL).mono ?_
      rintro e w1 ⟨(⟨v, k, g1, rfl, g2⟩ | ⟨x, g1, rfl⟩), f1⟩
      · obtain ⟨⟨sk, hsk⟩, jk, kl⟩ := symGo_val g1
        have hv := hL.syms sk
        rw [← hsk] at hv
        obtain ⟨v0, v1⟩ := hv
        simp only [g1] at hr1
        have hk1 : Kp E.B wr w1 := Kp.one hrd.lt f1
        have hrd1 : Rd E w1 k o2 fx := ⟨ov, g2, own_one hown f1⟩
        have HR1 : Hid _ := hr1
        clear hr1 g1 hsk
        by_cases c1 : v < 256
        · have hr2 := HR1.out
          rw [if_pos c1] at hr2
          have HR2 : Hid _ := hr2; clear hr2 HR1
          obtain ⟨ch, hch⟩ : ∃ ch : UInt8, ch = UInt8.ofNat v.toNat := ⟨_, rfl⟩
          have hcv : (ch.toNat : Int) = v := by rw [hch]; exact u8_of_int v v0 c1
          have HCH : Hid (ch = UInt8.ofNat v.toNat) := hch; clear hch
          have HCV : Hid ((ch.toNat : Int) = v) := hcv; clear hcv
          go_wp2_with fail
          rw [← HCV.out]
          refine (put_any E k o2 ch fx w1 hrd1 hlim hol).mono ?_
          rintro e w2 (⟨rfl, hfull, r1, k1⟩ | ⟨rfl, hfull, k1⟩)
          · have hr3 := HR2.out
            rw [if_neg (by omega), ← HCH.out] at hr3
            have HR3 : Hid _ := hr3; clear hr3 HR2
            obtain ⟨ov4, hat4, _⟩ := id r1
            have bp4 := (bitPos_at hat4).1
            have BP4 : Hid _ := bp4; clear bp4
            go_wp2_with fail
            go_roundw
            case rel => exact ⟨g, k, o2 ++ [ch], HR3.out, by omega, by omega, by simp; omega, r1, (hkp.trans hk1).trans k1⟩
            case measure => rw [BP1.out, BP4.out]; omega
          · have hr3 := HR2.out
            rw [if_pos hfull] at hr3
            have HR3 : Hid _ := hr3; clear hr3 HR2
            go_wp2_with fail
            exact ⟨rfl, Or.inr ⟨4, HR3.out.symm, rfl⟩, (hkp.trans hk1).trans k1⟩
        by_cases c2 : v = 256
        · have hr2 := HR1.out
          rw [if_neg c1, if_pos c2] at hr2
          have HR2 : Hid _ := hr2; clear hr2 HR1
          subst c2
          go_wp2_with fail
          refine bodyPost_ret (results_none rfl _ _ _) rfl ?_
          exact ⟨Or.inl ⟨k, o2, HR2.out.symm, rfl, hrd1, hol, by omega⟩, hkp.trans hk1⟩
        have c2b : (v == 256) = false := by simp; exact c2
        by_cases c3 : v < 286
        · have hr2 := HR1.out
          rw [if_neg c1, if_neg c2, if_pos c3] at hr2
          obtain ⟨s, rfl⟩ := Int.eq_ofNat_of_zero_le v0
          rw [Int.toNat_natCast] at hr2
          have HR2 : Hid _ := hr2; clear hr2 HR1
          go_wp2_with fail
          refine (length_at E k s ov fx w1 (hEr.one f1) g2 (by omega) (by omega)).mono ?_
          rintro e w2 ⟨(⟨n, k2, g3, rfl, g4⟩ | ⟨x, g3, rfl⟩), f2⟩
          · obtain ⟨l1, l2, l3, l4⟩ := lenE_ok g3 (by omega) (by omega)
            have hr3 := HR2.out
            simp only [g3] at hr3
            have HR3 : Hid _ := hr3; clear hr3 HR2 g3
            have hP2 := (hPr.kp hk1).kp (Kp.one hrd1.lt f2)
            go_wp2_with fail
            refine (distance_at E k2 cl cd pb gd D ov fx w2 ((hEr.one f1).one f2) g4 hP2.hD hD hP2.hp).mono ?_
            rintro e w3 ⟨(⟨d, k3, g5, rfl, g6⟩ | ⟨x, g5, rfl⟩), f3⟩
            · obtain ⟨m1, m2, m3, m4⟩ := distE_ok g5
              have hr4 := HR3.out
              simp only [g5] at hr4
              have HR4 : Hid _ := hr4; clear hr4 HR3 g5
              have hrd3 : Rd E w3 k3 o2 fx := ⟨ov, g6, own_one (own_one (own_one hown f1) f2) f3⟩
              have hk3 : Kp E.B wr w3 := Kp.one hrd.lt ((f1.trans f2).trans f3)
              go_wp2_with fail
              refine (repeat_at E k3 n d o2 fx w3 hrd3 hlim hol m3 (by omega) (by omega)).mono ?_
              rintro e w4 ⟨(⟨o4, g7, rfl, g8, g9⟩ | ⟨x, g7, rfl⟩), f4⟩
              · have hr5 := HR4.out
                simp only [g7] at hr5
                have HR5 : Hid _ := hr5; clear hr5 HR4 g7
                obtain ⟨ov4, hat4, _⟩ := id g8
                have bp4 := (bitPos_at hat4).1
                have BP4 : Hid _ := bp4; clear bp4
                go_wp2_with fail
                go_roundw
                case rel => exact ⟨g, k3, o4, HR5.out, by omega, by omega, g9, g8, (hkp.trans hk3).trans f4⟩
                case measure => rw [BP1.out, BP4.out]; omega
              · have hr5 := HR4.out
                simp only [g7] at hr5
                have HR5 : Hid _ := hr5; clear hr5 HR4 g7
                go_wp2_with fail
                exact ⟨rfl, Or.inr ⟨x, HR5.out.symm, rfl⟩, (hkp.trans hk3).trans f4⟩
            · have hr4 := HR3.out
              simp only [g5] at hr4
              have HR4 : Hid _ := hr4; clear hr4 HR3 g5
              go_wp2_with fail
              exact ⟨rfl, Or.inr ⟨x, HR4.out.symm, rfl⟩, hkp.trans (Kp.one hrd.lt ((f1.trans f2).trans f3))⟩
          · have hr3 := HR2.out
            simp only [g3] at hr3
            have HR3 : Hid _ := hr3; clear hr3 HR2 g3
            go_wp2_with fail
            exact ⟨rfl, Or.inr ⟨x, HR3.out.symm, rfl⟩, hkp.trans (Kp.one hrd.lt (f1.trans f2))⟩
        · have hr2 := HR1.out
          rw [if_neg c1, if_neg c2, if_neg c3] at hr2
          have HR2 : Hid _ := hr2; clear hr2 HR1
          go_wp2_with (go_at_call 45; refine (giveUp_any _ _).mono ?_; rintro e w' ⟨rfl, rfl⟩)
          exact ⟨rfl, Or.inr ⟨3, HR2.out.symm, rfl⟩, hkp.trans hk1⟩
      · simp only [g1] at hr1
        have HR1 : Hid _ := hr1; clear hr1 g1
        go_wp2_with fail
        exact ⟨rfl, Or.inr ⟨x, HR1.out.symm, rfl⟩, hkp.trans (Kp.one hrd.lt f1)⟩

end Go.Proofs.YtdpobjgfnhjagaaDoor

namespace Go.Proofs.YtdpobjgfnhjagaaDoor

/-- The code of these lengths. -/
def mkC (lens : List Nat) : Cd :=
  let c := run1 lens (List.replicate 16 0, 0)
  let z := run0 c.1 0 (List.replicate 16 0, 0)
  { cs := c.1, S := (run2 lens 0 (z.1, List.replicate z.2.toNat 0)).2, lg := c.2 }

theorem getD_set (l : List Int) (i j : Nat) (v : Int) (hi : i < l.length) : (l.set i v).getD j 0 = if i = j then v else l.getD j 0 := by
  simp only [List.getD, List.getElem?_set]
  by_cases h : i = j
  · subst h
    simp [hi]
  · simp [h]

theorem sum_set (l : List Int) (i : Nat) (v : Int) (hi : i < l.length) : (l.set i v).sum = l.sum - l.getD i 0 + v := by
  induction l generalizing i with
  | nil => simp at hi
  | cons a r ih =>
    cases i with
    | zero => simp; omega
    | succ i =>
      have := ih i (by simpa using hi)
      simp at this ⊢
      omega

theorem getD_le_sum (l : List Int) (h : ∀ i, 0 ≤ l.getD i 0) (i : Nat) : l.getD i 0 ≤ l.sum := by
  induction l generalizing i with
  | nil => simp
  | cons a r ih =>
    have h0 := h 0
    have hr : ∀ i, 0 ≤ r.getD i 0 := fun i => by have := h (i + 1); simpa using this
    have hs : 0 ≤ r.sum := by
      have := ih hr 0
      have := hr 0
      omega
    simp at h0
    cases i with
    | zero => simp; omega
    | succ i =>
      have := ih hr i
      simp at this ⊢
      omega

theorem take_sum_le (l : List Int) (h : ∀ i, 0 ≤ l.getD i 0) (n : Nat) : (l.take n).sum ≤ l.sum := by
  induction l generalizing n with
  | nil => simp
  | cons a r ih =>
    have hr : ∀ i, 0 ≤ r.getD i 0 := fun i => by have := h (i + 1); simpa using this
    cases n with
    | zero =>
      have h1 := getD_le_sum (a :: r) h 0
      have h2 := h 0
      simp at h1 h2 ⊢
      omega
    | succ n =>
      have := ih hr n
      simp at this ⊢
      omega

/-- Make's first loop, from any state on. -/
theorem run1_spec (L : List Nat) (hL : ∀ x ∈ L, x < 16) (cs : List Int) (lg : Int) (h16 : cs.length = 16) (hnn : ∀ i, 0 ≤ cs.getD i 0) (hz : cs.getD 0 0 = 0) (hs : cs.sum + L.length ≤ 320) (l0 : 0 ≤ lg) (l1 : lg ≤ 15) :
    ok1 L (cs, lg) = true ∧ (run1 L (cs, lg)).1.length = 16 ∧ (∀ i, 0 ≤ (run1 L (cs, lg)).1.getD i 0) ∧ (run1 L (cs, lg)).1.getD 0 0 = 0 ∧ (run1 L (cs, lg)).1.sum ≤ cs.sum + L.length ∧ 0 ≤ (run1 L (cs, lg)).2 ∧ (run1 L (cs, lg)).2 ≤ 15 ∧
    (∀ n, 0 < n → n < 16 → (run1 L (cs, lg)).1.getD n 0 = cs.getD n 0 + L.count n) := by
  induction L generalizing cs lg with
  | nil => exact ⟨rfl, h16, hnn, hz, by simp [run1], l0, l1, fun n _ _ => by simp [run1]⟩
  | cons m r ih =>
    have hm := hL m (by simp)
    have hr : ∀ x ∈ r, x < 16 := fun x hx => hL x (by simp [hx])
    have hle := getD_le_sum cs hnn m
    simp only [ok1, run1, stp1]
    simp only [List.length_cons] at hs
    by_cases h0 : m = 0
    · subst h0
      rw [if_pos rfl]
      obtain ⟨g1, g2, g3, g4, g5, g6, g7, g8⟩ := ih hr cs lg h16 hnn hz (by omega) l0 l1
      refine ⟨?_, g2, g3, g4, by simp only [List.length_cons]; omega, g6, g7, fun n n0 n1 => ?_⟩
      · rw [g1, hz]; decide
      · rw [g8 n n0 n1, List.count_cons_of_ne (by omega)]
    · rw [if_neg h0]
      have hc : ∀ j, (cs.set m (cs.getD m 0 + 1)).getD j 0 = if m = j then cs.getD m 0 + 1 else cs.getD j 0 := fun j => getD_set cs m j _ (by omega)
      have hsum : (cs.set m (cs.getD m 0 + 1)).sum = cs.sum + 1 := by rw [sum_set cs m _ (by omega)]; omega
      obtain ⟨g1, g2, g3, g4, g5, g6, g7, g8⟩ := ih hr (cs.set m (cs.getD m 0 + 1)) (if lg < (m : Int) then (m : Int) else lg) (by simpa using h16)
        (fun i => by rw [hc]; split; have := hnn m; omega; exact hnn i) (by rw [hc, if_neg h0]; exact hz) (by omega) (by split <;> omega) (by split <;> omega)
      refine ⟨?_, g2, g3, g4, by simp only [List.length_cons]; omega, g6, g7, fun n n0 n1 => ?_⟩
      · rw [g1]
        have := hnn m
        simp only [Bool.and_true, Bool.and_eq_true, decide_eq_true_eq]
        omega
      · rw [g8 n n0 n1, hc]
        by_cases e : m = n
        · subst e; rw [if_pos rfl, List.count_cons_self]; push_cast; omega
        · rw [if_neg e, List.count_cons_of_ne e]

theorem run0_spec (cs : List Int) (k : Nat) (st : List Int) (tot : Int) (hk : k + cs.length = 16) (hst : st.length = 16) (hnn : ∀ i, 0 ≤ cs.getD i 0) (h0 : 0 ≤ tot) (hs : tot + cs.sum ≤ 320) :
    ok0 cs tot = true ∧ (run0 cs k (st, tot)).1.length = 16 ∧ (run0 cs k (st, tot)).2 = tot + cs.sum ∧
    (∀ n, (run0 cs k (st, tot)).1.getD n 0 = if n < k then st.getD n 0 else if n < 16 then tot + (cs.take (n - k)).sum else 0) := by
  induction cs generalizing k st tot with
  | nil =>
    simp at hk
    refine ⟨rfl, hst, by simp [run0], fun n => ?_⟩
    simp only [run0]
    by_cases h : n < k
    · rw [if_pos h]
    · rw [if_neg h, if_neg (by omega)]
      simp [List.getD, List.getElem?_eq_none (show st.length ≤ n by omega)]
  | cons c r ih =>
    have hc0 := hnn 0
    simp at hc0
    have hr : ∀ i, 0 ≤ r.getD i 0 := fun i => by have := hnn (i + 1); simpa using this
    have hrs : 0 ≤ r.sum := by
      have h1 := getD_le_sum r hr 0
      have h2 := hr 0
      omega
    simp only [List.length_cons] at hk
    simp only [List.sum_cons] at hs
    obtain ⟨g1, g2, g3, g4⟩ := ih (k + 1) (st.set k tot) (tot + c) (by omega) (by simpa using hst) hr (by omega) (by omega)
    refine ⟨?_, g2, ?_, fun n => ?_⟩
    · simp only [ok0, g1, Bool.and_true, Bool.and_eq_true, decide_eq_true_eq]
      omega
    · simp only [run0]; rw [g3]; simp; omega
    · simp only [run0]
      rw [g4 n]
      by_cases h1 : n < k
      · rw [if_pos (by omega), if_pos h1, getD_set st k n tot (by omega), if_neg (by omega)]
      · rw [if_neg h1]
        by_cases h2 : n = k
        · subst h2
          rw [if_pos (by omega), if_pos (by omega), getD_set st n n tot (by omega), if_pos rfl]
          simp
        · rw [if_neg (by omega)]
          by_cases h3 : n < 16
          · rw [if_pos h3, if_pos h3, show n - k = (n - (k + 1)) + 1 by omega]
            simp
            omega
          · rw [if_neg h3, if_neg h3]

theorem run2_spec (lens : List Nat) (hL : ∀ x ∈ lens, x < 16) (off : Nat → Int) (t : Nat) (h0 : ∀ n, 0 ≤ off n) (hoff : ∀ n, 0 < n → n < 16 → off n + lens.count n ≤ t) (hlen : lens.length ≤ 320) :
    ∀ (r done : List Nat) (st : List Int × List Int), lens = done ++ r → st.1.length = 16 → st.2.length = t → (∀ n, 0 < n → n < 16 → st.1.getD n 0 = off n + done.count n) → (∀ i, 0 ≤ st.2.getD i 0 ∧ st.2.getD i 0 < 320) →
      ok2 r done.length t st = true ∧ (run2 r done.length st).2.length = t ∧ (∀ i, 0 ≤ (run2 r done.length st).2.getD i 0 ∧ (run2 r done.length st).2.getD i 0 < 320) := by
  intro r
  induction r with
  | nil => intro done st _ _ h2 _ h4; exact ⟨rfl, h2, h4⟩
  | cons m r ih =>
    intro done st hd h1 h2 h3 h4
    have hm : m < 16 := hL m (by rw [hd]; simp)
    have hkl : done.length < 320 := by
      have := congrArg List.length hd
      simp at this
      omega
    have hd2 : lens = (done ++ [m]) ++ r := by rw [hd]; simp
    simp only [ok2, run2, stp2]
    by_cases h0m : m = 0
    · subst h0m
      rw [if_pos rfl]
      have := ih (done ++ [0]) st hd2 h1 h2 (fun n n0 n1 => by rw [h3 n n0 n1, List.count_append, List.count_cons_of_ne (by omega), List.count_nil, Nat.add_zero]) h4
      simp only [List.length_append, List.length_cons, List.length_nil, Nat.zero_add] at this
      refine ⟨?_, this.2.1, this.2.2⟩
      rw [this.1]; simp
    · rw [if_neg h0m]
      have hv := h3 m (by omega) hm
      have hcm : (done.count m : Int) < lens.count m := by
        rw [hd, List.count_append, List.count_cons_self]; push_cast; omega
      have hof := hoff m (by omega) hm
      have hge := h0 m
      have hvn : 0 ≤ st.1.getD m 0 := by omega
      have hvt : st.1.getD m 0 < t := by omega
      have := ih (done ++ [m]) (st.1.set m (st.1.getD m 0 + 1), st.2.set (st.1.getD m 0).toNat done.length) hd2 (by simpa using h1) (by simpa using h2)
        (fun n n0 n1 => by
          show (st.1.set m (st.1.getD m 0 + 1)).getD n 0 = _
          rw [getD_set st.1 m n _ (by omega), List.count_append]
          by_cases e : m = n
          · subst e; rw [if_pos rfl, hv]; simp; omega
          · rw [if_neg e, h3 n n0 n1]; simp [e])
        (fun i => by
          show 0 ≤ (st.2.set (st.1.getD m 0).toNat done.length).getD i 0 ∧ _
          rw [getD_set st.2 _ i _ (by omega)]
          split
          · omega
          · exact h4 i)
      simp only [List.length_append, List.length_cons, List.length_nil, Nat.zero_add] at this
      refine ⟨?_, this.2.1, this.2.2⟩
      rw [this.1]
      simp only [Bool.and_true, Bool.and_eq_true, Bool.or_eq_true, decide_eq_true_eq]
      exact ⟨hm, Or.inr ⟨hvn, hvt⟩⟩

/-- All that Make asks and gives. -/
theorem mk_spec (lens : List Nat) (hL : ∀ x ∈ lens, x < 16) (hlen : lens.length ≤ 320) :
    (mkC lens).Wf ∧ ok1 lens (List.replicate 16 0, 0) = true ∧ run1 lens (List.replicate 16 0, 0) = ((mkC lens).cs, (mkC lens).lg) ∧
    ∃ N, run0 (mkC lens).cs 0 (List.replicate 16 0, 0) = (N, (((mkC lens).S.length : Nat) : Int)) ∧ ok0 (mkC lens).cs 0 = true ∧ (run2 lens 0 (N, List.replicate (mkC lens).S.length 0)).2 = (mkC lens).S ∧ ok2 lens 0 (mkC lens).S.length (N, List.replicate (mkC lens).S.length 0) = true := by
  have hz : ∀ i, (List.replicate 16 (0 : Int)).getD i 0 = 0 := fun i => by
    simp only [List.getD, List.getElem?_replicate]; split <;> rfl
  have hz0 : (List.replicate 16 (0 : Int)).sum = 0 := by decide
  obtain ⟨a1, a2, a3, a4, a5, a6, a7, a8⟩ := run1_spec lens hL (List.replicate 16 0) 0 (by simp) (fun i => by rw [hz]; omega) (hz 0) (by rw [hz0]; omega) (by omega) (by omega)
  rw [hz0] at a5
  have hcs : (mkC lens).cs = (run1 lens (List.replicate 16 0, 0)).1 := rfl
  have hlg : (mkC lens).lg = (run1 lens (List.replicate 16 0, 0)).2 := rfl
  obtain ⟨b1, b2, b3, b4⟩ := run0_spec (mkC lens).cs 0 (List.replicate 16 0) 0 (by rw [hcs]; omega) (by simp) (by rw [hcs]; exact a3) (by omega) (by rw [hcs]; omega)
  have hs0 : 0 ≤ (mkC lens).cs.sum := by
    have h1 := getD_le_sum (mkC lens).cs (by rw [hcs]; exact a3) 0
    have h2 := a3 0
    rw [← hcs] at h2
    omega
  obtain ⟨t, ht⟩ := Int.eq_ofNat_of_zero_le hs0
  have htl : t ≤ 320 := by rw [hcs] at ht; omega
  have hoff : ∀ n, (run0 (mkC lens).cs 0 (List.replicate 16 0, 0)).1.getD n 0 = if n < 16 then ((mkC lens).cs.take n).sum else 0 := fun n => by
    rw [b4 n, if_neg (by omega)]; simp
  obtain ⟨c1, c2, c3⟩ := run2_spec lens hL (fun n => if n < 16 then ((mkC lens).cs.take n).sum else 0) t
    (fun n => by
      by_cases hn : n < 16
      · simp only [hn, if_true]; exact sum_nonneg _ (by rw [hcs]; exact a3) n
      · simp only [hn, if_false]; omega)
    (fun n n0 n1 => by
      simp only [n1, if_true]
      have h1 := a8 n n0 n1
      rw [hz, ← hcs] at h1
      have h2 := sum_snoc (mkC lens).cs n (by rw [hcs]; omega)
      have h3 := take_sum_le (mkC lens).cs (by rw [hcs]; exact a3) (n + 1)
      omega) hlen lens [] ((run0 (mkC lens).cs 0 (List.replicate 16 0, 0)).1, List.replicate t 0) rfl b2 (by simp)
    (fun n n0 n1 => by show List.getD _ _ _ = _; rw [hoff n]; simp) (fun i => by
      show 0 ≤ (List.replicate t (0 : Int)).getD i 0 ∧ _
      simp only [List.getD, List.getElem?_replicate]; split <;> simp)
  have hT : (run0 (mkC lens).cs 0 (List.replicate 16 0, 0)).2 = (t : Int) := by rw [b3, ht]; omega
  have hS : (mkC lens).S = (run2 lens 0 ((run0 (mkC lens).cs 0 (List.replicate 16 0, 0)).1, List.replicate t 0)).2 := by
    have : (mkC lens).S = (run2 lens 0 ((run0 (mkC lens).cs 0 (List.replicate 16 0, 0)).1, List.replicate (run0 (mkC lens).cs 0 (List.replicate 16 0, 0)).2.toNat 0)).2 := rfl
    rw [this, hT]; simp
  simp only [List.length_nil] at c1 c2 c3
  have hSl : (mkC lens).S.length = t := by rw [hS]; exact c2
  refine ⟨⟨by rw [hcs]; exact a2, by rw [hcs]; exact a3, by rw [hcs]; exact a4, fun n => ?_, by omega, by rw [hlg]; exact a6, by rw [hlg]; exact a7, by rw [hS]; exact c3⟩, a1, rfl, (run0 (mkC lens).cs 0 (List.replicate 16 0, 0)).1, ?_, b1, ?_, ?_⟩
  · rw [hSl, ← ht]; exact take_sum_le _ (by rw [hcs]; exact a3) n
  · rw [hSl, ← hT]
  · rw [hSl, ← hS]
  · rw [hSl]; exact c1

end Go.Proofs.YtdpobjgfnhjagaaDoor

namespace Go.Proofs.YtdpobjgfnhjagaaDoor

/-- From place i on the bits are these. -/
def HasBits (I : List UInt8) (i : Nat) (bs : List Nat) : Prop := i + bs.length ≤ 8 * I.length ∧ ∀ k, k < bs.length → bitAt I (i + k) = bs.getD k 0

theorem HasBits.left {I : List UInt8} {i : Nat} {a b : List Nat} (h : HasBits I i (a ++ b)) : HasBits I i a := by
  obtain ⟨h1, h2⟩ := h
  simp only [List.length_append] at h1 h2
  refine ⟨by omega, fun k hk => ?_⟩
  rw [h2 k (by omega)]
  simp [List.getD, List.getElem?_append_left hk]
theorem HasBits.right {I : List UInt8} {i : Nat} {a b : List Nat} (h : HasBits I i (a ++ b)) : HasBits I (i + a.length) b := by
  obtain ⟨h1, h2⟩ := h
  simp only [List.length_append] at h1 h2
  refine ⟨by omega, fun k hk => ?_⟩
  rw [Nat.add_assoc, h2 (a.length + k) (by omega)]
  simp [List.getD, List.getElem?_append_right]
theorem HasBits.head {I : List UInt8} {i x : Nat} {b : List Nat} (h : HasBits I i (x :: b)) : bitAt I i = x ∧ HasBits I (i + 1) b ∧ i < 8 * I.length := by
  have h1 : HasBits I i ([x] ++ b) := h
  have h2 := h1.left.2 0 (by simp)
  have h3 := h1.right
  have h4 := h1.left.1
  simp at h2 h3 h4
  exact ⟨h2, h3, by omega⟩

/-- A number's bits, the lowest first; a code's, the highest first. -/
def lsb : Nat → Nat → List Nat
  | 0, _ => []
  | n + 1, v => v % 2 :: lsb n (v / 2)
def msb : Nat → Nat → List Nat
  | 0, _ => []
  | n + 1, v => v / 2 ^ n % 2 :: msb n v

theorem lsb_length (n v : Nat) : (lsb n v).length = n := by
  induction n generalizing v with
  | zero => rfl
  | succ n ih => simp [lsb, ih]
theorem msb_length (n v : Nat) : (msb n v).length = n := by
  induction n with
  | zero => rfl
  | succ n ih => simp [msb, ih]

theorem numAt_lsb {I : List UInt8} {i n v : Nat} (h : HasBits I i (lsb n v)) (hv : v < 2 ^ n) : numAt I i n = v := by
  induction n generalizing i v with
  | zero => simp [numAt]; omega
  | succ n ih =>
    obtain ⟨h1, h2, _⟩ := HasBits.head (x := v % 2) (b := lsb n (v / 2)) h
    rw [numAt, h1, ih h2 (by rw [Nat.pow_succ] at hv; omega)]
    omega

/-- The first code of each length. -/
def firstC (cs : List Int) : Nat → Int
  | 0 => 0
  | n + 1 => 2 * (firstC cs n + cs.getD n 0)

theorem firstC_nonneg (cs : List Int) (h : ∀ i, 0 ≤ cs.getD i 0) (n : Nat) : 0 ≤ firstC cs n := by
  induction n with
  | zero => simp [firstC]
  | succ n ih => have := h n; simp only [firstC]; omega

theorem firstC_mono (cs : List Int) (h : ∀ i, 0 ≤ cs.getD i 0) (m k : Nat) : 2 ^ (k + 1) * (firstC cs m + cs.getD m 0) ≤ firstC cs (m + k + 1) := by
  induction k with
  | zero => simp only [firstC]; omega
  | succ k ih =>
    have h1 := h (m + k + 1)
    rw [show m + (k + 1) + 1 = (m + k + 1) + 1 by omega]
    simp only [firstC]
    rw [Int.pow_succ, Int.mul_assoc, Int.mul_comm 2, ← Int.mul_assoc]
    have : 2 ^ (k + 1) * (firstC cs m + cs.getD m 0) ≤ firstC cs (m + k + 1) := ih
    generalize 2 ^ (k + 1) * (firstC cs m + cs.getD m 0) = z at *
    rw [show m + k + 1 = m + k + 1 from rfl] at *
    have e : firstC cs (m + k + 1) = 2 * (firstC cs (m + k) + cs.getD (m + k) 0) := rfl
    omega


/-- Reading a code comes to its symbol. -/
theorem symGo_code (I : List UInt8) (C : Cd) (hw : C.Wf) (n r c : Nat) (hn : 1 ≤ n) (hn15 : n ≤ 15) (hlg : (n : Int) ≤ C.lg) (hr : (r : Int) < C.cs.getD n 0) (hc : (c : Int) = firstC C.cs n + r) :
    ∀ (j i f : Nat), j + 1 ≤ n → j + 1 ≤ f → HasBits I i (msb (j + 1) c) →
      symGo I C f (n - j) ((c / 2 ^ (j + 1) : Nat) : Int) (firstC C.cs (n - j)) (C.cs.take (n - j)).sum i = .ok (C.S.getD ((C.cs.take n).sum + r).toNat 0, i + j + 1) := by
  intro j
  induction j with
  | zero =>
    intro i f _ hf h
    obtain ⟨h1, _, h3⟩ := HasBits.head h
    cases f with
    | zero => omega
    | succ f =>
      simp only [Nat.sub_zero, symGo]
      rw [if_neg (by omega), h1]
      have e : (2 * ((c / 2 ^ (0 + 1) : Nat) : Int) + ((c / 2 ^ 0 % 2 : Nat) : Int)) = (c : Int) := by simp; omega
      rw [e, if_pos (by omega)]
      rw [show (C.cs.take n).sum + (c : Int) - firstC C.cs n = (C.cs.take n).sum + r by omega]
  | succ j ih =>
    intro i f hj hf h
    obtain ⟨h1, h2, h3⟩ := HasBits.head h
    cases f with
    | zero => omega
    | succ f =>
      simp only [symGo]
      rw [if_neg (by omega), h1]
      have hdd : c / 2 ^ (j + 1 + 1) = c / 2 ^ (j + 1) / 2 := by rw [Nat.div_div_eq_div_mul, ← Nat.pow_succ]
      have e : (2 * ((c / 2 ^ (j + 1 + 1) : Nat) : Int) + ((c / 2 ^ (j + 1) % 2 : Nat) : Int)) = ((c / 2 ^ (j + 1) : Nat) : Int) := by
        rw [hdd]; omega
      rw [e]
      have hm : n - (j + 1) + j + 1 = n := by omega
      have hmono := firstC_mono C.cs hw.nn (n - (j + 1)) j
      rw [hm] at hmono
      have hge : firstC C.cs (n - (j + 1)) + C.cs.getD (n - (j + 1)) 0 ≤ ((c / 2 ^ (j + 1) : Nat) : Int) := by
        have h0 : 0 ≤ firstC C.cs (n - (j + 1)) + C.cs.getD (n - (j + 1)) 0 := by
          have := firstC_nonneg C.cs hw.nn (n - (j + 1))
          have := hw.nn (n - (j + 1))
          omega
        obtain ⟨z, hz⟩ := Int.eq_ofNat_of_zero_le h0
        rw [hz] at hmono ⊢
        have : 2 ^ (j + 1) * z ≤ c := by
          have h5 : ((2 ^ (j + 1) * z : Nat) : Int) ≤ (c : Int) := by
            push_cast
            omega
          exact Int.ofNat_le.1 h5
        exact Int.ofNat_le.2 ((Nat.le_div_iff_mul_le (Nat.pow_pos (by omega))).2 (by rw [Nat.mul_comm]; exact this))
      rw [if_neg (by omega), if_neg (by omega)]
      have hs : n - (j + 1) + 1 = n - j := by omega
      have h6 := ih (i + 1) f (by omega) (by omega) h2
      rw [← hs] at h6
      rw [sum_snoc C.cs (n - (j + 1)) (by rw [hw.l16]; omega)] at h6
      rw [show i + (j + 1) + 1 = i + 1 + j + 1 by omega]
      exact h6

theorem symAt_code (I : List UInt8) (C : Cd) (hw : C.Wf) (n r c i : Nat) (hn : 1 ≤ n) (hn15 : n ≤ 15) (hlg : (n : Int) ≤ C.lg) (hr : (r : Int) < C.cs.getD n 0) (hc : (c : Int) = firstC C.cs n + r) (hc2 : c < 2 ^ n)
    (h : HasBits I i (msb n c)) : symAt I C i = .ok (C.S.getD ((C.cs.take n).sum + r).toNat 0, i + n) := by
  obtain ⟨j, rfl⟩ : ∃ j, n = j + 1 := ⟨n - 1, by omega⟩
  have := symGo_code I C hw (j + 1) r c hn hn15 hlg hr hc j i 16 (by omega) (by omega) h
  rw [show j + 1 - j = 1 by omega, Nat.div_eq_of_lt hc2] at this
  have e1 : firstC C.cs 1 = 0 := by
    show 2 * (0 + C.cs.getD 0 0) = 0
    rw [hw.z0]; rfl
  have e2 : (C.cs.take 1).sum = 0 := by
    rw [sum_snoc C.cs 0 (by rw [hw.l16]; omega), hw.z0]; simp
  rw [e1, e2] at this
  unfold symAt
  rw [show i + (j + 1) = i + j + 1 from rfl]
  exact this

/-- Counting sort puts each symbol into its place. -/
theorem run2_place (lens : List Nat) (hL : ∀ x ∈ lens, x < 16) (off : Nat → Int) (t : Nat) (h0 : ∀ n, 0 ≤ off n) (hoff : ∀ n m, 0 < n → n < m → m < 16 → off n + lens.count n ≤ off m) (hoff2 : ∀ n, 0 < n → n < 16 → off n + lens.count n ≤ t) :
    ∀ (r done : List Nat) (st : List Int × List Int), lens = done ++ r → st.1.length = 16 → st.2.length = t → (∀ n, 0 < n → n < 16 → st.1.getD n 0 = off n + done.count n) →
      (∀ s n, s < done.length → lens.getD s 0 = n → 0 < n → st.2.getD (off n + (lens.take s).count n).toNat 0 = s) →
      (∀ s n, s < lens.length → lens.getD s 0 = n → 0 < n → (run2 r done.length st).2.getD (off n + (lens.take s).count n).toNat 0 = s) := by
  intro r
  induction r with
  | nil =>
    intro done st hd _ _ _ h4 s n hs
    have : lens = done := by simpa using hd
    exact h4 s n (by rw [← this]; exact hs)
  | cons m r ih =>
    intro done st hd h1 h2 h3 h4
    have hm : m < 16 := hL m (by rw [hd]; simp)
    have hd2 : lens = (done ++ [m]) ++ r := by rw [hd]; simp
    have hgm : lens.getD done.length 0 = m := by rw [hd]; simp [List.getD]
    have htk : lens.take done.length = done := by rw [hd]; simp
    simp only [run2, stp2]
    by_cases h0m : m = 0
    · subst h0m
      rw [if_pos rfl]
      have := ih (done ++ [0]) st hd2 h1 h2 (fun n n0 n1 => by rw [h3 n n0 n1, List.count_append, List.count_cons_of_ne (by omega), List.count_nil, Nat.add_zero]) (fun s n hs hsn n0 => by
        by_cases e : s = done.length
        · subst e; omega
        · exact h4 s n (by simp at hs; omega) hsn n0)
      simp only [List.length_append, List.length_cons, List.length_nil, Nat.zero_add] at this
      exact this
    · rw [if_neg h0m]
      have hv := h3 m (by omega) hm
      have hcm : (done.count m : Int) < lens.count m := by
        rw [hd, List.count_append, List.count_cons_self]; push_cast; omega
      have hof := hoff2 m (by omega) hm
      have hge := h0 m
      have hvt : st.1.getD m 0 < t := by omega
      have hvn : 0 ≤ st.1.getD m 0 := by omega
      have := ih (done ++ [m]) (st.1.set m (st.1.getD m 0 + 1), st.2.set (st.1.getD m 0).toNat done.length) hd2 (by simpa using h1) (by simpa using h2)
        (fun n n0 n1 => by
          show (st.1.set m (st.1.getD m 0 + 1)).getD n 0 = _
          rw [getD_set st.1 m n _ (by omega), List.count_append]
          by_cases e : m = n
          · subst e; rw [if_pos rfl, hv]; simp; omega
          · rw [if_neg e, h3 n n0 n1]; simp [e])
        (fun s n hs hsn n0 => by
          show (st.2.set (st.1.getD m 0).toNat done.length).getD (off n + (lens.take s).count n).toNat 0 = s
          rw [getD_set st.2 _ _ _ (by omega)]
          by_cases e : s = done.length
          · subst e
            rw [hgm] at hsn
            subst hsn
            rw [htk, hv, if_pos rfl]
          · have hsl : s < done.length := by simp at hs; omega
            have hslen : s < lens.length := by rw [hd]; simp; omega
            rw [if_neg, h4 s n hsl hsn n0]
            intro he
            have hn16 : n < 16 := by rw [← hsn]; simp only [List.getD, List.getElem?_eq_getElem hslen]; exact hL _ (List.getElem_mem hslen)
            have hg0 := h0 n
            have heq : off m + (done.count m : Int) = off n + ((lens.take s).count n : Int) := by
              rw [hv] at he
              omega
            have hlt : ((lens.take s).count n : Int) < (done.count n : Int) := by
              have e2 : done = lens.take s ++ (n :: done.drop (s + 1)) := by
                have h5 : lens.take s = done.take s := by rw [hd, List.take_append_of_le_length (by omega)]
                have h6 : done[s] = n := by
                  rw [← hsn, hd]
                  simp [List.getD, List.getElem?_append_left hsl, hsl]
                rw [h5, ← h6, ← List.drop_eq_getElem_cons hsl, List.take_append_drop]
              have e3 : done.count n = (lens.take s).count n + (n :: done.drop (s + 1)).count n := by
                rw [← List.count_append, ← e2]
              rw [List.count_cons_self] at e3
              omega
            have hdl : (done.count n : Int) ≤ lens.count n := by rw [hd, List.count_append]; push_cast; omega
            have hml : (done.count m : Int) < lens.count m := hcm
            rcases Nat.lt_trichotomy n m with h7 | h7 | h7
            · have := hoff n m n0 h7 hm; omega
            · subst h7; omega
            · have := hoff m n (by omega) h7 hn16; omega)
      simp only [List.length_append, List.length_cons, List.length_nil, Nat.zero_add] at this
      exact this

theorem run1_lg (L : List Nat) : ∀ (st : List Int × Int), st.2 ≤ (run1 L st).2 ∧ ∀ x ∈ L, (x : Int) ≤ (run1 L st).2 ∨ x = 0 := by
  induction L with
  | nil => intro st; exact ⟨Int.le_refl _, fun x hx => by simp at hx⟩
  | cons m r ih =>
    intro st
    simp only [run1]
    obtain ⟨h1, h2⟩ := ih (stp1 st m)
    have h3 : st.2 ≤ (stp1 st m).2 ∧ ((m : Int) ≤ (stp1 st m).2 ∨ m = 0) := by
      unfold stp1
      split
      · exact ⟨Int.le_refl _, Or.inr ‹_›⟩
      · constructor
        · show st.2 ≤ if _ then _ else _
          split <;> omega
        · left
          show (m : Int) ≤ if _ then _ else _
          split <;> omega
    refine ⟨by omega, fun x hx => ?_⟩
    rcases List.mem_cons.1 hx with rfl | hx
    · rcases h3.2 with h4 | h4
      · left; omega
      · right; exact h4
    · exact h2 x hx

/-- The code of a symbol, by the lengths of all. -/
def codeOf (lens : List Nat) (s : Nat) : Nat := (firstC (mkC lens).cs (lens.getD s 0)).toNat + (lens.take s).count (lens.getD s 0)

theorem cs_count (lens : List Nat) (hL : ∀ x ∈ lens, x < 16) (hlen : lens.length ≤ 320) (n : Nat) (h0 : 0 < n) (h1 : n < 16) : (mkC lens).cs.getD n 0 = lens.count n := by
  have hz : ∀ i, (List.replicate 16 (0 : Int)).getD i 0 = 0 := fun i => by
    simp only [List.getD, List.getElem?_replicate]; split <;> rfl
  have hz0 : (List.replicate 16 (0 : Int)).sum = 0 := by decide
  obtain ⟨_, _, _, _, _, _, _, a8⟩ := run1_spec lens hL (List.replicate 16 0) 0 (by simp) (fun i => by rw [hz]; omega) (hz 0) (by rw [hz0]; omega) (by omega) (by omega)
  have := a8 n h0 h1
  rw [hz] at this
  show (run1 lens (List.replicate 16 0, 0)).1.getD n 0 = _
  omega

/-- Bits that are a symbol's code are read as that symbol. -/
theorem symAt_sym (I : List UInt8) (lens : List Nat) (hL : ∀ x ∈ lens, x < 16) (hlen : lens.length ≤ 320) (s i : Nat) (hs : s < lens.length) (hn : 0 < lens.getD s 0) (hfit : codeOf lens s < 2 ^ lens.getD s 0) (h : HasBits I i (msb (lens.getD s 0) (codeOf lens s))) :
    symAt I (mkC lens) i = .ok ((s : Int), i + lens.getD s 0) := by
  obtain ⟨hw, h1, h2, N, h3, h4, h5, h6⟩ := mk_spec lens hL hlen
  have hmem : lens.getD s 0 ∈ lens := by
    simp only [List.getD, List.getElem?_eq_getElem hs]; exact List.getElem_mem hs
  have hn16 : lens.getD s 0 < 16 := hL _ hmem
  have hlg : ((lens.getD s 0 : Nat) : Int) ≤ (mkC lens).lg := by
    rcases (run1_lg lens (List.replicate 16 0, 0)).2 _ hmem with h7 | h7
    · exact h7
    · omega
  have hcnt := cs_count lens hL hlen (lens.getD s 0) hn hn16
  have hr : (((lens.take s).count (lens.getD s 0) : Nat) : Int) < (mkC lens).cs.getD (lens.getD s 0) 0 := by
    rw [hcnt]
    have e : lens = lens.take s ++ (lens.getD s 0 :: lens.drop (s + 1)) := by
      have : lens.getD s 0 = lens[s] := by simp [List.getD, hs]
      rw [this, ← List.drop_eq_getElem_cons hs, List.take_append_drop]
    have e2 : lens.count (lens.getD s 0) = (lens.take s).count (lens.getD s 0) + (lens.getD s 0 :: lens.drop (s + 1)).count (lens.getD s 0) := by
      rw [← List.count_append, ← e]
    rw [List.count_cons_self] at e2
    omega
  have hf0 := firstC_nonneg (mkC lens).cs hw.nn (lens.getD s 0)
  have hc : ((codeOf lens s : Nat) : Int) = firstC (mkC lens).cs (lens.getD s 0) + (((lens.take s).count (lens.getD s 0) : Nat) : Int) := by
    unfold codeOf; omega
  rw [symAt_code I (mkC lens) hw (lens.getD s 0) _ (codeOf lens s) i hn (by omega) hlg hr hc hfit h]
  have hz : ∀ i, (List.replicate 16 (0 : Int)).getD i 0 = 0 := fun i => by
    simp only [List.getD, List.getElem?_replicate]; split <;> rfl
  obtain ⟨_, b2, b3, b4⟩ := run0_spec (mkC lens).cs 0 (List.replicate 16 0) 0 (by rw [hw.l16]) (by simp) hw.nn (by omega) (by
    have h7 := hw.sum 16
    rw [List.take_of_length_le (by rw [hw.l16]; omega)] at h7
    have h8 := hw.most
    omega)
  rw [h3] at b2 b3 b4
  have hoff : ∀ n, N.getD n 0 = if n < 16 then ((mkC lens).cs.take n).sum else 0 := fun n => by
    have := b4 n
    rw [if_neg (by omega)] at this
    simpa using this
  have hpl := run2_place lens hL (fun n => if n < 16 then ((mkC lens).cs.take n).sum else 0) (mkC lens).S.length
    (fun n => by
      by_cases hn : n < 16
      · simp only [hn, if_true]; exact sum_nonneg _ hw.nn n
      · simp only [hn, if_false]; omega)
    (fun n m n0 hnm m1 => by
      have hn1 : n < 16 := by omega
      simp only [hn1, m1, if_true]
      have h7 := sum_snoc (mkC lens).cs n (by rw [hw.l16]; omega)
      have h8 := cs_count lens hL hlen n n0 hn1
      have h9 : ((mkC lens).cs.take (n + 1)).sum ≤ ((mkC lens).cs.take m).sum := by
        have : (mkC lens).cs.take (n + 1) = ((mkC lens).cs.take m).take (n + 1) := by rw [List.take_take, Nat.min_eq_left (by omega)]
        rw [this]
        refine take_sum_le _ (fun i => ?_) _
        simp only [List.getD, List.getElem?_take]
        split
        · exact hw.nn i
        · simp
      omega)
    (fun n n0 n1 => by
      simp only [n1, if_true]
      have h7 := sum_snoc (mkC lens).cs n (by rw [hw.l16]; omega)
      have h8 := cs_count lens hL hlen n n0 n1
      have h9 := hw.sum (n + 1)
      omega) lens [] (N, List.replicate (mkC lens).S.length 0) rfl b2 (by simp) (fun n n0 n1 => by show N.getD n 0 = _; rw [hoff n]; simp) (fun s n hs => by simp at hs) s (lens.getD s 0) hs rfl hn
  simp only [List.length_nil, hn16, if_true] at hpl
  rw [h5] at hpl
  rw [hpl]

end Go.Proofs.YtdpobjgfnhjagaaDoor

namespace Go.Proofs.YtdpobjgfnhjagaaDoor
open Go.RowKit

theorem list16 (cs : List Int) (h : cs.length = 16) : ∃ c0 c1 c2 c3 c4 c5 c6 c7 c8 c9 c10 c11 c12 c13 c14 c15, cs = [c0, c1, c2, c3, c4, c5, c6, c7, c8, c9, c10, c11, c12, c13, c14, c15] := by
  match cs, h with
  | [c0, c1, c2, c3, c4, c5, c6, c7, c8, c9, c10, c11, c12, c13, c14, c15], _ => exact ⟨c0, c1, c2, c3, c4, c5, c6, c7, c8, c9, c10, c11, c12, c13, c14, c15, rfl⟩

theorem make_at (g o n cap : Nat) (lens : List Nat) (w : World) (hn : lens.length = n) (hn2 : n ≤ 320) (hx : ∀ x ∈ lens, x < 16) (hL : IntsAt w g o (ni lens)) :
    Calls Tryd.prog 67 #[.slice (some ⟨g, o, none⟩) n cap] w fun e w' => e = .returned (.pointer (some ⟨w.heap.size, 0, none⟩)) ∧ (∀ B, B < w.heap.size → CodeAt B w' w.heap.size (mkC lens) (w.heap.size + 3)) ∧ Below w.heap.size w w' := by
  obtain ⟨hw, h1, h2, N, h3, h4, h5, h6⟩ := mk_spec lens hx (by omega)
  obtain ⟨c0, c1, c2, c3, c4, c5, c6, c7, c8, c9, c10, c11, c12, c13, c14, c15, hcs⟩ := list16 (mkC lens).cs hw.l16
  refine (make_any g o n cap (mkC lens).S.length lens c0 c1 c2 c3 c4 c5 c6 c7 c8 c9 c10 c11 c12 c13 c14 c15 (mkC lens).lg (mkC lens).cs N (mkC lens).S w hcs hn hn2 hL h2 h1 h3 h4 hw.most h5 h6).mono ?_
  rintro e w' ⟨rfl, k1, k2, k3⟩
  exact ⟨rfl, fun B hB => ⟨k1, k2, hB, by omega⟩, k3⟩

set_option maxRecDepth 100000 in
set_option maxHeartbeats 400000 in
theorem size_at (B cl g : Nat) (C : Cd) (w : World) (hC : CodeAt B w cl C g) (hw : C.Wf) :
    Calls Tryd.prog 71 #[.pointer (some ⟨cl, 0, none⟩)] w fun e w' => e = .returned (.int .i64 (C.S.length : Nat)) ∧ w' = w := by
  obtain ⟨e1, e2, e3, e4⟩ := code_cell hC.hc hw.l16
  clear e1
  go_enter Tryd.func71, Tryd.ntmps71
  go_wp2_with fail
  go_ret
  exact ⟨rfl, rfl⟩

/-- Do the codes add up? -/
def roomOf (cs : List Int) : Nat → Int
  | 0 => 0
  | n + 1 => roomOf cs n + cs.getD n 0 * 2 ^ (15 - n)
def goodB (C : Cd) : Bool := (C.S.length == 1 && C.lg == 1) || roomOf C.cs 16 == 32768

theorem roomOf_le (cs : List Int) (h0 : ∀ i, 0 ≤ cs.getD i 0) (h1 : ∀ i, cs.getD i 0 ≤ 320) (n : Nat) : 0 ≤ roomOf cs n ∧ roomOf cs n ≤ 10485760 * n := by
  induction n with
  | zero => simp [roomOf]
  | succ n ih =>
    have hp : (2 : Int) ^ (15 - n) ≤ 32768 := by
      have h15 : (2 : Nat) ^ (15 - n) ≤ 2 ^ 15 := Nat.pow_le_pow_right (by omega) (by omega)
      have e : ((2 : Int) ^ (15 - n)) = ((2 ^ (15 - n) : Nat) : Int) := by simp
      rw [e]
      omega
    have hp0 : (0 : Int) ≤ 2 ^ (15 - n) := Int.pow_nonneg (by omega)
    have := h0 n
    have := h1 n
    have h2 : 0 ≤ cs.getD n 0 * 2 ^ (15 - n) := Int.mul_nonneg (by omega) hp0
    have h3 : cs.getD n 0 * 2 ^ (15 - n) ≤ 320 * 32768 := Int.mul_le_mul (by omega) hp hp0 (by omega)
    simp only [roomOf]
    push_cast
    omega

theorem Cd.Wf.le {C : Cd} (hw : C.Wf) (i : Nat) : C.cs.getD i 0 ≤ 320 := by
  have h1 := getD_le_sum C.cs hw.nn i
  have h2 := hw.sum 16
  rw [List.take_of_length_le (by rw [hw.l16]; omega)] at h2
  have h3 := hw.most
  omega

set_option maxRecDepth 100000 in
set_option maxHeartbeats 2000000 in
set_option maxRecDepth 100000 in
theorem good_at (B cl g : Nat) (C : Cd) (w : World) (hC : CodeAt B w cl C g) (hw : C.Wf) :
    Calls Tryd.prog 70 #[.pointer (some ⟨cl, 0, none⟩)] w fun e w' => e = .returned (.bool (goodB C)) ∧ w' = w := by
  obtain ⟨e1, e2, e3, e4⟩ := code_cell hC.hc hw.l16
  obtain ⟨c0, c1, c2, c3, c4, c5, c6, c7, c8, c9, c10, c11, c12, c13, c14, c15, hcs⟩ := list16 C.cs hw.l16
  have d0 := e1 0 (by omega)
  have d1 := e1 1 (by omega)
  have d2 := e1 2 (by omega)
  have d3 := e1 3 (by omega)
  have d4 := e1 4 (by omega)
  have d5 := e1 5 (by omega)
  have d6 := e1 6 (by omega)
  have d7 := e1 7 (by omega)
  have d8 := e1 8 (by omega)
  have d9 := e1 9 (by omega)
  have d10 := e1 10 (by omega)
  have d11 := e1 11 (by omega)
  have d12 := e1 12 (by omega)
  have d13 := e1 13 (by omega)
  have d14 := e1 14 (by omega)
  have d15 := e1 15 (by omega)
  rw [hcs] at d0 d1 d2 d3 d4 d5 d6 d7 d8 d9 d10 d11 d12 d13 d14 d15
  simp only [List.getD_cons_zero, List.getD_cons_succ] at d0 d1 d2 d3 d4 d5 d6 d7 d8 d9 d10 d11 d12 d13 d14 d15
  have HC : Hid (C.cs = [c0, c1, c2, c3, c4, c5, c6, c7, c8, c9, c10, c11, c12, c13, c14, c15]) := hcs; clear hcs e1
  by_cases h1 : C.S.length = 1 ∧ C.lg = 1
  · have hg : goodB C = true := by simp [goodB, h1.1, h1.2]
    rw [hg]
    have hs := size_at B cl g C w hC hw
    rw [h1.1] at hs
    have HS : Hid _ := hs; clear hs hg
    rw [h1.2] at e3
    clear h1
    go_enter Tryd.func70, Tryd.ntmps70
    go_wp2_with fail
    refine Calls.mono HS.out ?_
    rintro e w' ⟨rfl, rfl⟩
    go_wp2_with fail
    go_ret
    exact ⟨rfl, rfl⟩
  · have hg : goodB C = (roomOf C.cs 16 == 32768) := by
      have : (C.S.length == 1 && C.lg == 1) = false := by
        rw [Bool.eq_false_iff]; intro h; simp at h; exact h1 h
      simp [goodB, this]
    rw [hg]
    clear hg
    by_cases h2 : C.S.length = 1
    · have h3 : ¬ C.lg = 1 := fun h => h1 ⟨h2, h⟩
      have hs := size_at B cl g C w hC hw
      rw [h2] at hs
      have HS : Hid _ := hs; clear hs h2
      have h3b : (C.lg == 1) = false := by simp; exact h3
      clear h1
      go_enter Tryd.func70, Tryd.ntmps70
      go_wp2_with fail
      refine Calls.mono HS.out ?_
      rintro e w' ⟨rfl, rfl⟩
      go_wp2_with fail
      go_loopw [3, 20] (fun rv i wr => ∃ k : Nat, k ≤ 16 ∧ i = .int .i64 k ∧ rv = .int .i64 (roomOf C.cs k) ∧ wr = w') (fun _ i _ => 16 - (intOf i).toNat)
      case atStart => exact ⟨0, by omega, rfl, rfl, rfl⟩
      case round =>
        obtain ⟨k, hk, rfl, rfl, rfl⟩ := hrel
        by_cases hlt : k < 16
        · obtain ⟨cv, hcv⟩ : ∃ v, Hid (C.cs.getD k 0 = v) := ⟨_, rfl⟩
          have hidx : ∀ w, (Instr.index 112 (.agg #[.int .i64 c0, .int .i64 c1, .int .i64 c2, .int .i64 c3, .int .i64 c4, .int .i64 c5, .int .i64 c6, .int .i64 c7, .int .i64 c8, .int .i64 c9, .int .i64 c10, .int .i64 c11, .int .i64 c12, .int .i64 c13, .int .i64 c14, .int .i64 c15]) (.int .i64 k)).run Tryd.prog w = .ok (.int .i64 cv) w := by
            intro w'
            have := run_index16 C.cs hw.l16 k hlt w'
            rw [hcv.out, HC.out] at this
            exact this
          have hr := roomOf_le C.cs hw.nn hw.le k
          have hn1 := hw.nn k
          have hn2 := hw.le k
          rw [hcv.out] at hn1 hn2
          have hp : (2 : Nat) ^ (15 - k) ≤ 2 ^ 15 := Nat.pow_le_pow_right (by omega) (by omega)
          have hprod : (0 : Int) ≤ cv * 2 ^ (15 - k) ∧ cv * 2 ^ (15 - k) ≤ 10485760 := by
            have e : ((2 : Int) ^ (15 - k)) = ((2 ^ (15 - k) : Nat) : Int) := by simp
            rw [e]
            generalize (2 : Nat) ^ (15 - k) = z at hp
            constructor
            · exact Int.mul_nonneg hn1 (by omega)
            · have := Int.mul_le_mul hn2 (show (z : Int) ≤ 32768 by omega) (by omega) (show (0 : Int) ≤ 320 by omega)
              omega
          have hwr : wrap64 (cv * 2 ^ (15 - k)) = cv * 2 ^ (15 - k) := IntWalk.wrap64_in _ (by omega)
          have HWR : Hid _ := hwr
          have hsub : ((15 : Int) - (k : Int)) = ((15 - k : Nat) : Int) := by omega
          have hr1 := hr.1
          have hr2 := hr.2
          have HPR : Hid _ := hprod; clear hprod hr hp
          go_wp2_with fail
          go_roundw
          case rel =>
            refine ⟨k + 1, by omega, by go_num, ?_, trivial⟩
            simp only [roomOf, hcv.out]
            rw [IntWalk.wrap64_in _ (by have := HPR.out; omega)]
          case measure => simp [intOf]; omega
        · have : k = 16 := by omega
          subst this
          go_wp2_with fail
          go_ret
          exact ⟨rfl, rfl⟩
    · have hs := size_at B cl g C w hC hw
      have HS : Hid (Calls Tryd.prog 71 #[.pointer (some ⟨cl, 0, none⟩)] w fun e w' => e = .returned (.int .i64 (C.S.length : Nat)) ∧ w' = w) := hs; clear hs
      have h2b : ((C.S.length : Int) == 1) = false := by simp; omega
      clear h1
      go_enter Tryd.func70, Tryd.ntmps70
      go_wp2_with fail
      refine Calls.mono HS.out ?_
      rintro e w' ⟨rfl, rfl⟩
      go_wp2_with fail
      go_loopw [3, 20] (fun rv i wr => ∃ k : Nat, k ≤ 16 ∧ i = .int .i64 k ∧ rv = .int .i64 (roomOf C.cs k) ∧ wr = w') (fun _ i _ => 16 - (intOf i).toNat)
      case atStart => exact ⟨0, by omega, rfl, rfl, rfl⟩
      case round =>
        obtain ⟨k, hk, rfl, rfl, rfl⟩ := hrel
        by_cases hlt : k < 16
        · obtain ⟨cv, hcv⟩ : ∃ v, Hid (C.cs.getD k 0 = v) := ⟨_, rfl⟩
          have hidx : ∀ w, (Instr.index 112 (.agg #[.int .i64 c0, .int .i64 c1, .int .i64 c2, .int .i64 c3, .int .i64 c4, .int .i64 c5, .int .i64 c6, .int .i64 c7, .int .i64 c8, .int .i64 c9, .int .i64 c10, .int .i64 c11, .int .i64 c12, .int .i64 c13, .int .i64 c14, .int .i64 c15]) (.int .i64 k)).run Tryd.prog w = .ok (.int .i64 cv) w := by
            intro w'
            have := run_index16 C.cs hw.l16 k hlt w'
            rw [hcv.out, HC.out] at this
            exact this
          have hr := roomOf_le C.cs hw.nn hw.le k
          have hn1 := hw.nn k
          have hn2 := hw.le k
          rw [hcv.out] at hn1 hn2
          have hp : (2 : Nat) ^ (15 - k) ≤ 2 ^ 15 := Nat.pow_le_pow_right (by omega) (by omega)
          have hprod : (0 : Int) ≤ cv * 2 ^ (15 - k) ∧ cv * 2 ^ (15 - k) ≤ 10485760 := by
            have e : ((2 : Int) ^ (15 - k)) = ((2 ^ (15 - k) : Nat) : Int) := by simp
            rw [e]
            generalize (2 : Nat) ^ (15 - k) = z at hp
            constructor
            · exact Int.mul_nonneg hn1 (by omega)
            · have := Int.mul_le_mul hn2 (show (z : Int) ≤ 32768 by omega) (by omega) (show (0 : Int) ≤ 320 by omega)
              omega
          have hwr : wrap64 (cv * 2 ^ (15 - k)) = cv * 2 ^ (15 - k) := IntWalk.wrap64_in _ (by omega)
          have HWR : Hid _ := hwr
          have hsub : ((15 : Int) - (k : Int)) = ((15 - k : Nat) : Int) := by omega
          have hr1 := hr.1
          have hr2 := hr.2
          have HPR : Hid _ := hprod; clear hprod hr hp
          go_wp2_with fail
          go_roundw
          case rel =>
            refine ⟨k + 1, by omega, by go_num, ?_, trivial⟩
            simp only [roomOf, hcv.out]
            rw [IntWalk.wrap64_in _ (by have := HPR.out; omega)]
          case measure => simp [intOf]; omega
        · have : k = 16 := by omega
          subst this
          go_wp2_with fail
          go_ret
          exact ⟨rfl, rfl⟩

end Go.Proofs.YtdpobjgfnhjagaaDoor

namespace Go.Proofs.YtdpobjgfnhjagaaDoor

theorem room_first (cs : List Int) (n : Nat) (hn : n ≤ 15) : roomOf cs n = firstC cs n * 2 ^ (15 - n) := by
  induction n with
  | zero => simp [roomOf, firstC]
  | succ n ih =>
    simp only [roomOf, firstC]
    rw [ih (by omega), show 15 - n = 15 - (n + 1) + 1 by omega, Int.pow_succ, ← Int.add_mul, Int.mul_comm (2 ^ (15 - (n + 1))) 2, ← Int.mul_assoc, Int.mul_comm _ 2]

theorem room_mono (cs : List Int) (h : ∀ i, 0 ≤ cs.getD i 0) (n k : Nat) : roomOf cs n ≤ roomOf cs (n + k) := by
  induction k with
  | zero => exact Int.le_refl _
  | succ k ih =>
    have : 0 ≤ cs.getD (n + k) 0 * 2 ^ (15 - (n + k)) := Int.mul_nonneg (h _) (Int.pow_nonneg (by omega))
    rw [show n + (k + 1) = (n + k) + 1 by omega]
    simp only [roomOf]
    omega

theorem first_fits (cs : List Int) (h : ∀ i, 0 ≤ cs.getD i 0) (hr : roomOf cs 16 = 32768) (n : Nat) (hn : n ≤ 15) : firstC cs n + cs.getD n 0 ≤ 2 ^ n := by
  have h1 : roomOf cs (n + 1) = (firstC cs n + cs.getD n 0) * 2 ^ (15 - n) := by
    simp only [roomOf]; rw [room_first cs n hn, Int.add_mul]
  have h2 := room_mono cs h (n + 1) (15 - n)
  rw [show n + 1 + (15 - n) = 16 by omega, hr, h1] at h2
  have h3 : (32768 : Int) = 2 ^ n * 2 ^ (15 - n) := by
    rw [← Int.pow_add, show n + (15 - n) = 15 by omega]; rfl
  rw [h3] at h2
  exact Int.le_of_mul_le_mul_right h2 (Int.pow_pos (by omega))

/-- Codes of good lengths fit into their bits. -/
theorem good_fit (lens : List Nat) (hL : ∀ x ∈ lens, x < 16) (hlen : lens.length ≤ 320) (hg : goodB (mkC lens) = true) (s : Nat) (hs : s < lens.length) (hn : 0 < lens.getD s 0) : codeOf lens s < 2 ^ lens.getD s 0 := by
  obtain ⟨hw, _⟩ := mk_spec lens hL hlen
  have hmem : lens.getD s 0 ∈ lens := by
    simp only [List.getD, List.getElem?_eq_getElem hs]; exact List.getElem_mem hs
  have hn16 : lens.getD s 0 < 16 := hL _ hmem
  have hcnt := cs_count lens hL hlen (lens.getD s 0) hn hn16
  have hr : ((lens.take s).count (lens.getD s 0) : Int) < (mkC lens).cs.getD (lens.getD s 0) 0 := by
    rw [hcnt]
    have e : lens = lens.take s ++ (lens.getD s 0 :: lens.drop (s + 1)) := by
      have : lens.getD s 0 = lens[s] := by simp [List.getD, hs]
      rw [this, ← List.drop_eq_getElem_cons hs, List.take_append_drop]
    have e2 : lens.count (lens.getD s 0) = (lens.take s).count (lens.getD s 0) + (lens.getD s 0 :: lens.drop (s + 1)).count (lens.getD s 0) := by
      rw [← List.count_append, ← e]
    rw [List.count_cons_self] at e2
    omega
  have hf0 := firstC_nonneg (mkC lens).cs hw.nn (lens.getD s 0)
  have key : firstC (mkC lens).cs (lens.getD s 0) + (mkC lens).cs.getD (lens.getD s 0) 0 ≤ 2 ^ lens.getD s 0 := by
    unfold goodB at hg
    rcases Bool.or_eq_true _ _ ▸ hg with h1 | h1
    · simp only [Bool.and_eq_true, beq_iff_eq] at h1
      have hlg : ((lens.getD s 0 : Nat) : Int) ≤ (mkC lens).lg := by
        rcases (run1_lg lens (List.replicate 16 0, 0)).2 _ hmem with h7 | h7
        · exact h7
        · omega
      have hn1 : lens.getD s 0 = 1 := by omega
      rw [hn1] at hr ⊢
      have e1 : firstC (mkC lens).cs 1 = 0 := by
        show 2 * (0 + (mkC lens).cs.getD 0 0) = 0
        rw [hw.z0]; rfl
      have h2 := sum_snoc (mkC lens).cs 1 (by rw [hw.l16]; omega)
      have h3 := hw.sum (1 + 1)
      have h4 := sum_nonneg (mkC lens).cs hw.nn 1
      rw [e1]
      have e5 : ((2 : Int) ^ 1) = 2 := rfl
      rw [e5]
      omega
    · simp only [beq_iff_eq] at h1
      exact first_fits (mkC lens).cs hw.nn h1 _ (by omega)
  have : ((codeOf lens s : Nat) : Int) < ((2 ^ lens.getD s 0 : Nat) : Int) := by
    unfold codeOf
    push_cast
    omega
  exact Int.ofNat_lt.1 this

/-- A byte, or a length and a distance, by their symbols and the bits more. -/
structure Tok where
  s : Nat
  ex : Nat
  d : Nat
  dx : Nat

def codeBits (lens : List Nat) (s : Nat) : List Nat := msb (lens.getD s 0) (codeOf lens s)
def tokBits (L D : List Nat) (t : Tok) : List Nat :=
  codeBits L t.s ++ (if t.s < 256 then [] else lsb (lenM t.s) t.ex ++ (codeBits D t.d ++ lsb (distM t.d) t.dx))
def toksBits (L D : List Nat) : List Tok → List Nat
  | [] => []
  | t :: r => tokBits L D t ++ toksBits L D r
def tokOut (lim : Int) (t : Tok) (out : List UInt8) : Except Int (List UInt8) :=
  if t.s < 256 then (if lim ≤ out.length then .error 4 else .ok (out ++ [UInt8.ofNat t.s])) else repE lim out (lenB t.s + t.ex) (distB t.d + t.dx)
def toksOut (lim : Int) : List Tok → List UInt8 → Except Int (List UInt8)
  | [], out => .ok out
  | t :: r, out => match tokOut lim t out with
    | .error x => .error x
    | .ok o => toksOut lim r o

/-- Lengths that a block may have. -/
structure LensOk (lens : List Nat) : Prop where
  lt : ∀ x ∈ lens, x < 16
  len : lens.length ≤ 320
  fit : ∀ s, s < lens.length → 0 < lens.getD s 0 → codeOf lens s < 2 ^ lens.getD s 0

def tokOk (L D : List Nat) (t : Tok) : Prop :=
  t.s < L.length ∧ 0 < L.getD t.s 0 ∧ (t.s < 256 ∨ (257 ≤ t.s ∧ t.s ≤ 285 ∧ t.ex < 2 ^ lenM t.s ∧ t.d < 30 ∧ t.d < D.length ∧ 0 < D.getD t.d 0 ∧ t.dx < 2 ^ distM t.d))

theorem sym_bits {I : List UInt8} {lens : List Nat} (h : LensOk lens) {s i : Nat} (hs : s < lens.length) (hn : 0 < lens.getD s 0) (hb : HasBits I i (codeBits lens s)) : symAt I (mkC lens) i = .ok ((s : Int), i + (codeBits lens s).length) := by
  unfold codeBits at hb ⊢
  rw [msb_length]
  exact symAt_sym I lens h.lt h.len s i hs hn (h.fit s hs hn) hb

/-- A block's symbols are read as what they were written for. -/
theorem syms_toks {I : List UInt8} {L D : List Nat} (hL : LensOk L) (hD : LensOk D) (lim : Int) (h256 : 256 < L.length) (he : 0 < L.getD 256 0) (toks : List Tok) :
    ∀ (f i : Nat) (out : List UInt8), (∀ t ∈ toks, tokOk L D t) → toks.length < f → HasBits I i (toksBits L D toks ++ codeBits L 256) →
      symsGo I (mkC L) (mkC D) lim f i out = match toksOut lim toks out with
        | .error x => .error x
        | .ok o => .ok (i + (toksBits L D toks).length + (codeBits L 256).length, o) := by
  induction toks with
  | nil =>
    intro f i out _ hf hb
    cases f with
    | zero => omega
    | succ f =>
      have hb' : HasBits I i (codeBits L 256) := hb
      simp only [symsGo, sym_bits hL h256 he hb', toksOut, toksBits, List.length_nil, Nat.add_zero]
      rw [if_neg (by omega), if_pos (by omega)]
  | cons t r ih =>
    intro f i out ht hf hb
    cases f with
    | zero => omega
    | succ f =>
      obtain ⟨t1, t2, t3⟩ := ht t (by simp)
      have hr : ∀ t ∈ r, tokOk L D t := fun x hx => ht x (by simp [hx])
      simp only [List.length_cons] at hf
      simp only [toksBits, List.append_assoc] at hb
      have hb1 := hb.left
      have hb2 := hb.right
      unfold tokBits at hb1
      have hs := sym_bits hL t1 t2 hb1.left
      simp only [symsGo, hs]
      rcases t3 with t3 | ⟨c1, c2, c3, c4, c5, c6, c7⟩
      · have hlen : (tokBits L D t).length = (codeBits L t.s).length := by unfold tokBits; rw [if_pos t3]; simp
        rw [if_pos (by omega)]
        simp only [toksOut, tokOut, if_pos t3]
        by_cases hfull : lim ≤ (out.length : Int)
        · rw [if_pos hfull, if_pos hfull]
        · rw [if_neg hfull, if_neg hfull]
          rw [hlen] at hb2
          rw [ih f _ _ hr (by omega) hb2, Int.toNat_natCast]
          simp only [toksBits, List.length_append, hlen, Nat.add_assoc]
      · rw [if_neg (by omega), if_neg (by omega), if_pos (by omega), Int.toNat_natCast]
        rw [if_neg (by omega)] at hb1
        have hx := hb1.right
        have hx1 := hx.left
        have hy := hx.right
        have hy1 := hy.left
        have hz := hy.right
        have hlx := hx1.1
        rw [lsb_length] at hlx hy hz hy1
        have hle : lenE I t.s (i + (codeBits L t.s).length) = .ok (lenB t.s + t.ex, i + (codeBits L t.s).length + lenM t.s) := by
          unfold lenE
          rw [if_pos hlx, numAt_lsb hx1 c3]
        have hde : distE I (mkC D) (i + (codeBits L t.s).length + lenM t.s) = .ok (distB t.d + t.dx, i + (codeBits L t.s).length + lenM t.s + (codeBits D t.d).length + distM t.d) := by
          unfold distE
          rw [sym_bits hD c5 c6 hy1]
          have hlz := hz.1
          rw [lsb_length] at hlz
          simp only [Int.toNat_natCast]
          rw [if_neg (by omega), if_pos hlz, numAt_lsb hz c7]
        simp only [hle, hde, toksOut, tokOut]
        rw [if_neg (show ¬ t.s < 256 by omega)]
        cases hrep : repE lim out (lenB t.s + t.ex) (distB t.d + t.dx) with
        | error x => rfl
        | ok o =>
          have hlen : (tokBits L D t).length = (codeBits L t.s).length + lenM t.s + (codeBits D t.d).length + distM t.d := by
            unfold tokBits; rw [if_neg (by omega)]; simp [lsb_length]; omega
          rw [hlen] at hb2
          simp only [← Nat.add_assoc] at hb2 ⊢
          rw [ih f _ _ hr (by omega) hb2]
          simp only [toksBits, List.length_append, hlen, ← Nat.add_assoc]

end Go.Proofs.YtdpobjgfnhjagaaDoor

namespace Go.Proofs.YtdpobjgfnhjagaaDoor
open Go.RowKit

/-- The order in which a dynamic block tells the lengths of the codes of lengths. -/
def ordL : List Nat := [16, 17, 18, 0, 8, 7, 9, 6, 10, 5, 11, 4, 12, 3, 13, 2, 14, 1, 15]
/-- The package's table holds it. -/
def OrdAt (w : World) : Prop := ∀ i, i < 19 → w.cell? ⟨0, i, none⟩ = some (.int .i64 (ordL.getD i 0 : Nat))

theorem OrdAt.below {B : Nat} {w w' : World} (h : OrdAt w) (hb : Below B w w') (hB : 0 < B) : OrdAt w' := fun i hi => (hb.cell (p := ⟨0, i, none⟩) hB).trans (h i hi)
theorem OrdAt.one {B : Nat} {w w' : World} (h : OrdAt w) (f : Fr (One B) w w') (hB : 0 < B) : OrdAt w' := fun i hi => ne_of_cell f (by simp [One]; omega) (h i hi)

theorem number_lit (E : Env) (i n : Nat) (m : Int) (ov fx : Value) (w : World) (hE : E.Ok w) (h : RdAt E w i ov fx) (hn : n ≤ 16) (hm : m = (n : Int)) :
    Calls Tryd.prog 24 #[.pointer (some ⟨E.B, 0, none⟩), .int .i64 m] w fun r w' => ((i + n ≤ 8 * E.I.length ∧ r = .returned (.int .i64 (numAt E.I i n)) ∧ RdAt E w' (i + n) ov fx) ∨ (8 * E.I.length < i + n ∧ r = stop 2)) ∧ Fr (One E.B) w w' := by
  subst hm
  exact number_at E i n ov fx w hE h hn

set_option maxRecDepth 100000 in
set_option maxHeartbeats 400000 in
theorem Ordered_any (k : Nat) (w : World) (h : OrdAt w) (hk : k < 19) :
    Calls Tryd.prog 80 #[.int .i64 k] w fun e w' => e = .returned (.int .i64 (ordL.getD k 0 : Nat)) ∧ w' = w := by
  have hc := h k hk
  generalize ordL.getD k 0 = q at hc ⊢
  go_enter Tryd.func80, Tryd.ntmps80
  go_wp2_with fail
  go_ret
  exact ⟨rfl, rfl⟩

/-- The codes of lengths' lengths. -/
def clGo (I : List UInt8) : Nat → Nat → Nat → List Nat → Except Int (List Nat × Nat)
  | 0, _, i, lens => .ok (lens, i)
  | n + 1, k, i, lens => if i + 3 ≤ 8 * I.length then clGo I n (k + 1) (i + 3) (lens.set (ordL.getD k 0) (numAt I i 3)) else .error 2
def clE (I : List UInt8) (told i : Nat) : Except Int (List Nat × Nat) :=
  match clGo I told 0 i (List.replicate 19 0) with
  | .error x => .error x
  | .ok (lens, j) => if goodB (mkC lens) then .ok (lens, j) else .error 3

theorem ord_lt (k : Nat) : ordL.getD k 0 < 19 := by
  by_cases h : k < 19
  · have key : ∀ k : Fin 19, ordL.getD k.val 0 < 19 := by decide +kernel
    exact key ⟨k, h⟩
  · simp [ordL, List.getD]
    rw [List.getElem?_eq_none (by simp; omega)]
    simp

theorem ni_set (L : List Nat) (i v : Nat) : (ni L).set i (v : Int) = ni (L.set i v) := by
  simp only [ni, List.map_set]
  rfl

theorem getD_setN (l : List Nat) (i j v : Nat) (hi : i < l.length) : (l.set i v).getD j 0 = if i = j then v else l.getD j 0 := by
  simp only [List.getD, List.getElem?_set]
  by_cases h : i = j
  · subst h
    simp [hi]
  · simp [h]

theorem mem_set_lt {L : List Nat} {i v b : Nat} (h : ∀ x ∈ L, x < b) (hv : v < b) : ∀ x ∈ L.set i v, x < b := by
  intro x hx
  rcases List.mem_or_eq_of_mem_set hx with h1 | h1
  · exact h x h1
  · rw [h1]; exact hv

set_option maxRecDepth 100000 in
set_option maxHeartbeats 2000000 in
theorem codeOfLengths_at (E : Env) (i told : Nat) (ov fx : Value) (w : World) (hE : E.Ok w) (hO : OrdAt w) (h : RdAt E w i ov fx) (ht : told ≤ 19) :
    Calls Tryd.prog 69 #[.pointer (some ⟨E.B, 0, none⟩), .int .i64 told] w fun r w' =>
      ((∃ lens j cl g, clE E.I told i = .ok (lens, j) ∧ r = .returned (.pointer (some ⟨cl, 0, none⟩)) ∧ CodeAt E.B w' cl (mkC lens) g ∧ RdAt E w' j ov fx ∧ (∀ x ∈ lens, x < 16) ∧ lens.length = 19) ∨ (∃ x, clE E.I told i = .error x ∧ r = stop x)) ∧ Fr (One E.B) w w' := by
  obtain ⟨i0, hi, hz0, hz1, hz2⟩ := info_parts info3
  have hB := h.lt
  have hB0 : 0 < E.B := by have := hE.hb; omega
  go_enter Tryd.func69, Tryd.ntmps69
  go_wp2_with (at_make; refine wpList_make_full _ rfl _ _ 36 rfl w.heap.size 3 i0 (.int .i64 0) 1 underlying36 hi hz0 hz1 .i64 .i64 19 19 19 rfl rfl rfl rfl ?b1 ?b2 ?b3 ?go)
  case b1 => rw [hz2]; omega
  case b2 => unfold maxLen; omega
  case b3 => simp
  case go =>
    intro w1 hown hg
    have hh := owns_full hown
    have hfr : Fr (One E.B) w w1 := (Fr.refl _ _).grown hg (fun k e => by cases e)
    have hsz1 : w.heap.size < w1.heap.size := lt_of_heap hh
    have hr1 : RdAt E w1 i ov fx := by
      obtain ⟨p, held, left, g1, g2⟩ := h
      exact ⟨p, held, left, (hg.block E.B hB (by simp)).trans g1, g2⟩
    clear hown hg
    rw [made_zero 19] at hh
    have HH : Hid _ := hh; clear hh
    go_wp2_with fail
    go_loopw [10] (fun kv wr => ∃ (k j : Nat) (L : List Nat), k ≤ told ∧ kv = .int .i64 k ∧ Hid (clGo E.I (told - k) k j L = clGo E.I told 0 i (List.replicate 19 0)) ∧ Hid (L.length = 19) ∧ (∀ x ∈ L, x < 16) ∧ wr.heap[w.heap.size]? = some (.cells (ints (ni L)) 3 (0, 0)) ∧ RdAt E wr j ov fx ∧ Fr (One E.B) w wr) (fun kv _ => told - (intOf kv).toNat)
    case atStart => exact ⟨0, i, List.replicate 19 0, by omega, rfl, rfl, by simp [Hid], fun x hx => by rw [List.eq_of_mem_replicate hx]; omega, HH.out, hr1, hfr⟩
    case round =>
      obtain ⟨k, j, L, hk, rfl, hr, hl, hx, hh, hrd, hf⟩ := hrel
      by_cases hlt : k < told
      · have hr2 := hr.out
        rw [show told - k = (told - (k + 1)) + 1 by omega] at hr2
        simp only [clGo] at hr2
        have HR2 : Hid _ := hr2; clear hr2
        have hEr := hE.one hf
        have hOr := hO.one hf hB0
        have hol := ord_lt k
        have hoc := Ordered_any k
        have hnum := numAt_lt E.I j 3
        obtain ⟨q, hq⟩ : ∃ q, Hid (ordL.getD k 0 = q) := ⟨_, rfl⟩
        rw [hq.out] at hol
        have hql : q < 19 := hol
        have hqi : (q : Int) < 19 := by omega
        obtain ⟨cv, hcv⟩ : ∃ cv, wr.cell? ⟨w.heap.size, q, none⟩ = some (.int .i64 cv) := ⟨_, cell_ints hh q (by rw [ni_length, hl.out]; exact hql)⟩
        have hz := free_of_heap hh
        have hsB : ¬ w.heap.size = E.B := by omega
        have HK : Hid _ := hh; clear hh
        have HOC : Hid (∀ w, OrdAt w → k < 19 → Calls Tryd.prog 80 #[.int .i64 k] w fun e w' => e = .returned (.int .i64 (ordL.getD k 0 : Nat)) ∧ w' = w) := hoc; clear hoc hol
        have hnc : Calls Tryd.prog 24 #[.pointer (some ⟨E.B, 0, none⟩), .int .i64 3] wr.drew fun e w3 =>
            (e = .returned (.int .i64 (numAt E.I j 3 : Nat)) ∧ RdAt E w3 (j + 3) ov fx ∧ w3.cell? ⟨w.heap.size, q, none⟩ = some (.int .i64 cv) ∧ w3.frozen? ⟨w.heap.size, q, none⟩ = false ∧ Fr (One E.B) wr w3 ∧ j + 3 ≤ 8 * E.I.length) ∨ (e = stop 2 ∧ clE E.I told i = .error 2 ∧ Fr (One E.B) w w3) := by
          refine (number_lit E j 3 3 ov fx wr.drew ⟨hEr.hl, hEr.hb, hEr.hI⟩ hrd (by omega) rfl).mono ?_
          rintro e w3 ⟨(⟨g1, rfl, g2⟩ | ⟨g1, rfl⟩), f3⟩
          · have f3' : Fr (One E.B) wr w3 := ((Fr.refl _ _).drew).trans f3
            exact Or.inl ⟨rfl, g2, ne_of_cell f3' hsB hcv, (World.frozen?_of_block (w := wr) (a := ⟨w.heap.size, q, none⟩) (f3'.block w.heap.size (lt_of_heap HK.out) hsB)).trans (hz q), f3', g1⟩
          · refine Or.inr ⟨rfl, ?_, hf.trans (((Fr.refl _ _).drew).trans f3)⟩
            have := HR2.out
            rw [if_neg (by omega)] at this
            unfold clE
            rw [← this]
        have HNC : Hid _ := hnc; clear hnc
        go_wp2_with fail
        go_region_with (first
          | (go_at_call 80; refine Calls.mono (HOC.out _ (by exact hOr) (by omega)) ?_; rintro e w' ⟨rfl, rfl⟩; rw [hq.out])
          | (go_at_call 24; refine Calls.mono HNC.out ?_; rintro e w3 (⟨rfl, g2, c3, z3, f3, g1⟩ | ⟨rfl, hcl, f3⟩); rotate_left; exact ⟨rfl, Or.inr ⟨2, hcl, rfl⟩, f3⟩))
        all_goals
          go_wp2_with fail
          go_roundw
          case rel =>
            have hr3 := HR2.out
            rw [if_pos g1, hq.out] at hr3
            refine ⟨k + 1, j + 3, L.set q (numAt E.I j 3), by omega, by go_num, hr3, ?_, mem_set_lt hx (by omega), ?_, ?_, ?_⟩
            · have := hl.out
              simpa [Hid] using this
            · rw [← ni_set]
              exact set_ints ((f3.block w.heap.size (lt_of_heap HK.out) hsB).trans HK.out) q _
            · obtain ⟨p, held, left, q1, q2⟩ := g2
              exact ⟨p, held, left, (heap_set_other (by omega) _ _).trans q1, q2⟩
            · exact (hf.trans f3).setNew (p := ⟨w.heap.size, q, none⟩) (Nat.le_refl _) _
          case measure => simp [intOf]; omega
      · have : k = told := by omega
        subst this
        have hr2 := hr.out
        rw [Nat.sub_self] at hr2
        simp only [clGo] at hr2
        have HR2 : Hid _ := hr2; clear hr2
        have hsB : w.heap.size < wr.heap.size := lt_of_heap hh
        have hia := IntsAt.of_heap hh
        have hL19 : L.length = 19 := hl.out
        clear hh
        go_wp2_with fail
        refine (make_at w.heap.size 0 19 19 L wr hl.out (by omega) hx hia).mono ?_
        rintro e w4 ⟨rfl, hC, hb4⟩
        have hC4 := hC E.B (by omega)
        obtain ⟨hwf, _⟩ := mk_spec L hx (by omega)
        have hrd4 : RdAt E w4 j ov fx := by
          obtain ⟨p, held, left, q1, q2⟩ := hrd
          exact ⟨p, held, left, (hb4.block _ (by omega)).trans q1, q2⟩
        have hf4 : Fr (One E.B) w w4 := hf.trans ⟨hb4.os, hb4.tape, hb4.output, hb4.size, fun k hk _ => hb4.block k hk⟩
        clear hC hb4
        go_wp2_with fail
        refine (good_at E.B wr.heap.size (wr.heap.size + 3) (mkC L) w4 hC4 hwf).mono ?_
        rintro e w5 ⟨rfl, rfl⟩
        cases hgood : goodB (mkC L) with
        | true =>
          have hcl : clE E.I k i = .ok (L, j) := by
            unfold clE
            rw [← HR2.out]
            simp [hgood]
          have HCL : Hid _ := hcl; clear hcl hgood
          go_wp2_with fail
          go_ret
          exact ⟨Or.inl ⟨L, j, _, _, HCL.out, rfl, hC4, hrd4, hx, hL19⟩, hf4⟩
        | false =>
          have hcl : clE E.I k i = .error 3 := by
            unfold clE
            rw [← HR2.out]
            simp [hgood]
          have HCL : Hid _ := hcl; clear hcl hgood
          go_wp2_with (go_at_call 45; refine (giveUp_any _ _).mono ?_; rintro e w' ⟨rfl, rfl⟩)
          exact ⟨rfl, Or.inr ⟨3, HCL.out, rfl⟩, hf4⟩

end Go.Proofs.YtdpobjgfnhjagaaDoor

namespace Go.Proofs.YtdpobjgfnhjagaaDoor
open Go.RowKit

theorem getD_set_le (l : List Int) (i j : Nat) (v b : Int) (h : l.getD j 0 < b) (hv : v < b) : (l.set i v).getD j 0 < b := by
  by_cases hi : i < l.length
  · rw [getD_set l i j v hi]; split
    · exact hv
    · exact h
  · rw [List.set_eq_of_length_le (by omega)]; exact h

theorem run2_lt (b : Int) : ∀ (r : List Nat) (k : Nat) (st : List Int × List Int), (∀ i, st.2.getD i 0 < b) → (k : Int) + r.length ≤ b → ∀ i, (run2 r k st).2.getD i 0 < b := by
  intro r
  induction r with
  | nil => intro k st h _ i; exact h i
  | cons m r ih =>
    intro k st h hk i
    simp only [run2]
    simp only [List.length_cons] at hk
    refine ih (k + 1) (stp2 st k m) (fun i => ?_) (by push_cast at hk ⊢; omega) i
    unfold stp2
    split
    · exact h i
    · exact getD_set_le _ _ _ _ _ (h i) (by push_cast at hk; omega)

theorem mk_syms (lens : List Nat) (h : 0 < lens.length) (i : Nat) : (mkC lens).S.getD i 0 < lens.length := by
  refine run2_lt _ lens 0 _ (fun i => ?_) (by omega) i
  show (List.replicate _ (0 : Int)).getD i 0 < _
  simp only [List.getD, List.getElem?_replicate]
  split <;> simp <;> omega

/-- One symbol of a row: a length, and how many times it comes. -/
def runE (I : List UInt8) (C : Cd) (L : List Nat) (i : Nat) : Except Int ((Nat × Nat) × Nat) :=
  match symAt I C i with
  | .error x => .error x
  | .ok (v, j) =>
    if v = 16 then (if L.length = 0 then .error 3 else if j + 2 ≤ 8 * I.length then .ok ((L.getD (L.length - 1) 0, 3 + numAt I j 2), j + 2) else .error 2)
    else if v = 17 then (if j + 3 ≤ 8 * I.length then .ok ((0, 3 + numAt I j 3), j + 3) else .error 2)
    else if v = 18 then (if j + 7 ≤ 8 * I.length then .ok ((0, 11 + numAt I j 7), j + 7) else .error 2)
    else .ok ((v.toNat, 1), j)

set_option maxRecDepth 100000 in
set_option maxHeartbeats 2000000 in
theorem run_at (E : Env) (i cl gc g cap : Nat) (C : Cd) (L : List Nat) (ov fx : Value) (w : World) (hE : E.Ok w) (h : RdAt E w i ov fx) (hC : CodeAt E.B w cl C gc) (hw : C.Wf) (hL : IntsAt w g 0 (ni L)) (hgB : g ≠ E.B) (hLl : L.length ≤ 320) :
    Calls Tryd.prog 82 #[.pointer (some ⟨E.B, 0, none⟩), .pointer (some ⟨cl, 0, none⟩), .slice (some ⟨g, 0, none⟩) L.length cap] w fun r w' =>
      ((∃ a t j, runE E.I C L i = .ok ((a, t), j) ∧ r = .returned (.tuple #[.int .i64 (a : Nat), .int .i64 (t : Nat)]) ∧ RdAt E w' j ov fx) ∨ (∃ x, runE E.I C L i = .error x ∧ r = stop x)) ∧ Fr (One E.B) w w' := by
  go_enter Tryd.func82, Tryd.ntmps82
  go_wp2_with fail
  refine (symbol_at E i cl gc C ov fx w hE h hC hw).mono ?_
  rintro e w1 ⟨(⟨v, j, g1, rfl, g2⟩ | ⟨x, g1, rfl⟩), f1⟩
  · obtain ⟨⟨sk, hsk⟩, jk, kl⟩ := symGo_val g1
    have hv := hw.syms sk
    rw [← hsk] at hv
    obtain ⟨v0, v1⟩ := hv
    have hE1 := hE.one f1
    by_cases c16 : v = 16
    · subst c16
      by_cases hl0 : L.length = 0
      · have hre : runE E.I C L i = .error 3 := by unfold runE; rw [g1]; simp [hl0]
        have HRE : Hid _ := hre; clear hre g1 hsk
        rw [hl0]
        go_wp2_with (go_at_call 45; refine (giveUp_any _ _).mono ?_; rintro e w' ⟨rfl, rfl⟩)
        exact ⟨rfl, Or.inr ⟨3, HRE.out, rfl⟩, f1⟩
      · have hre : runE E.I C L i = if j + 2 ≤ 8 * E.I.length then .ok ((L.getD (L.length - 1) 0, 3 + numAt E.I j 2), j + 2) else .error 2 := by
          unfold runE; rw [g1]; simp [hl0]
        have hcell := hL.cell (L.length - 1) (by rw [ni_length]; omega)
        rw [ni_getD, Nat.zero_add] at hcell
        have hc1 := ne_of_cell f1 (by simp [One]; omega) hcell
        clear hcell
        obtain ⟨m, hm⟩ : ∃ m, L.length = m + 1 := ⟨L.length - 1, by omega⟩
        rw [hm, Nat.add_sub_cancel] at hre hc1
        rw [hm]
        generalize L.getD m 0 = last at hre hc1
        have HRE : Hid _ := hre; clear hre g1 hsk
        have hnc : Calls Tryd.prog 24 #[.pointer (some ⟨E.B, 0, none⟩), .int .i64 2] w1.drew fun e w3 =>
            (e = .returned (.int .i64 (numAt E.I j 2 : Nat)) ∧ RdAt E w3 (j + 2) ov fx ∧ w3.cell? ⟨g, m, none⟩ = some (.int .i64 (last : Nat)) ∧ Fr (One E.B) w1 w3 ∧ runE E.I C L i = .ok ((last, 3 + numAt E.I j 2), j + 2)) ∨ (e = stop 2 ∧ runE E.I C L i = .error 2 ∧ Fr (One E.B) w w3) := by
          refine (number_lit E j 2 2 ov fx w1.drew ⟨hE1.hl, hE1.hb, hE1.hI⟩ g2 (by omega) rfl).mono ?_
          rintro e w3 ⟨(⟨q1, rfl, q2⟩ | ⟨q1, rfl⟩), f3⟩
          · have f3' : Fr (One E.B) w1 w3 := ((Fr.refl _ _).drew).trans f3
            exact Or.inl ⟨rfl, q2, ne_of_cell f3' (by simp [One]; omega) hc1, f3', HRE.out.trans (if_pos q1)⟩
          · exact Or.inr ⟨rfl, HRE.out.trans (if_neg (by omega)), f1.trans (((Fr.refl _ _).drew).trans f3)⟩
        have HNC : Hid _ := hnc; clear hnc
        have hnum := numAt_lt E.I j 2
        have hwm : IntKind.i64.wrap (m : Int) = (m : Int) := by rw [IntKind.wrap_i64]; omega
        have hmm : (m : Int) < (m : Int) + 1 := by omega
        have hm0 : ((m : Int) + 1 == 0) = false := by simp; omega
        have hw3 : IntKind.i64.wrap (3 + (numAt E.I j 2 : Int)) = 3 + (numAt E.I j 2 : Int) := by rw [IntKind.wrap_i64]; omega
        go_wp2_with fail
        go_region_with (go_at_call 24; refine Calls.mono HNC.out ?_; rintro e w3 (⟨rfl, q2, c3, f3, hok⟩ | ⟨rfl, hcl, f3⟩); rotate_left; exact ⟨rfl, Or.inr ⟨2, hcl, rfl⟩, f3⟩)
        all_goals
          go_wp2_with fail
          go_ret2
          refine ⟨Or.inl ⟨last, 3 + numAt E.I j 2, j + 2, hok, ?_, q2⟩, f1.trans f3⟩
          rw [show (((3 + numAt E.I j 2 : Nat)) : Int) = 3 + (numAt E.I j 2 : Int) by simp]
          rfl
    have b16 : (v == 16) = false := by simp; exact c16
    by_cases c17 : v = 17
    · subst c17
      have hre : runE E.I C L i = if j + 3 ≤ 8 * E.I.length then .ok ((0, 3 + numAt E.I j 3), j + 3) else .error 2 := by
        unfold runE; rw [g1]; simp
      have HRE : Hid _ := hre; clear hre g1 hsk
      go_wp2_with fail
      refine (number_lit E j 3 3 ov fx w1 hE1 g2 (by omega) rfl).mono ?_
      rintro e w3 ⟨(⟨q1, rfl, q2⟩ | ⟨q1, rfl⟩), f3⟩
      · have hnum := numAt_lt E.I j 3
        go_wp2_with fail
        go_ret2
        refine ⟨Or.inl ⟨0, 3 + numAt E.I j 3, j + 3, HRE.out.trans (if_pos q1), ?_, q2⟩, f1.trans f3⟩
        rw [show (((3 + numAt E.I j 3 : Nat)) : Int) = 3 + (numAt E.I j 3 : Int) by simp]
        rfl
      · go_wp2_with fail
        exact ⟨rfl, Or.inr ⟨2, HRE.out.trans (if_neg (by omega)), rfl⟩, f1.trans f3⟩
    have b17 : (v == 17) = false := by simp; exact c17
    by_cases c18 : v = 18
    · subst c18
      have hre : runE E.I C L i = if j + 7 ≤ 8 * E.I.length then .ok ((0, 11 + numAt E.I j 7), j + 7) else .error 2 := by
        unfold runE; rw [g1]; simp
      have HRE : Hid _ := hre; clear hre g1 hsk
      go_wp2_with fail
      refine (number_lit E j 7 7 ov fx w1 hE1 g2 (by omega) rfl).mono ?_
      rintro e w3 ⟨(⟨q1, rfl, q2⟩ | ⟨q1, rfl⟩), f3⟩
      · have hnum := numAt_lt E.I j 7
        go_wp2_with fail
        go_ret2
        refine ⟨Or.inl ⟨0, 11 + numAt E.I j 7, j + 7, HRE.out.trans (if_pos q1), ?_, q2⟩, f1.trans f3⟩
        rw [show (((11 + numAt E.I j 7 : Nat)) : Int) = 11 + (numAt E.I j 7 : Int) by simp]
        rfl
      · go_wp2_with fail
        exact ⟨rfl, Or.inr ⟨2, HRE.out.trans (if_neg (by omega)), rfl⟩, f1.trans f3⟩
    have b18 : (v == 18) = false := by simp; exact c18
    have hre : runE E.I C L i = .ok ((v.toNat, 1), j) := by
      unfold runE; rw [g1]; simp [c16, c17, c18]
    have HRE : Hid _ := hre; clear hre g1 hsk c16 c17 c18
    obtain ⟨s, rfl⟩ := Int.eq_ofNat_of_zero_le v0
    go_wp2_with fail
    go_ret2
    exact ⟨Or.inl ⟨s, 1, j, HRE.out, rfl, g2⟩, f1⟩
  · have hre : runE E.I C L i = .error x := by unfold runE; rw [g1]
    have HRE : Hid _ := hre; clear hre g1
    go_wp2_with fail
    exact ⟨rfl, Or.inr ⟨x, HRE.out, rfl⟩, f1⟩

end Go.Proofs.YtdpobjgfnhjagaaDoor

namespace Go.Proofs.YtdpobjgfnhjagaaDoor
open Go.RowKit

/-- The lengths of all codes of a dynamic block. -/
def rowGo (I : List UInt8) (C : Cd) (size : Nat) : Nat → Nat → List Nat → Except Int (List Nat × Nat)
  | 0, _, _ => .error 0
  | f + 1, i, L =>
    if size ≤ L.length then .ok (L, i)
    else match runE I C L i with
      | .error x => .error x
      | .ok ((a, t), j) => if size < L.length + t then .error 3 else rowGo I C size f j (L ++ List.replicate t a)

theorem runE_ok {I : List UInt8} {C : Cd} {L : List Nat} {i a t j : Nat} (h : runE I C L i = .ok ((a, t), j)) (hC : ∀ i, C.S.getD i 0 < 19) (hC0 : ∀ i, 0 ≤ C.S.getD i 0) (hL : ∀ x ∈ L, x < 16) : 1 ≤ t ∧ t ≤ 200 ∧ a < 16 ∧ i < j ∧ j ≤ 8 * I.length := by
  unfold runE at h
  split at h
  · cases h
  · rename_i v k hs
    obtain ⟨⟨q, hq⟩, h1, h2⟩ := symGo_val hs
    have hv := hC q
    have hv0 := hC0 q
    rw [← hq] at hv hv0
    split at h
    · split at h
      · cases h
      · split at h
        · simp only [Except.ok.injEq, Prod.mk.injEq] at h
          obtain ⟨⟨rfl, rfl⟩, rfl⟩ := h
          have := numAt_lt I k 2
          refine ⟨by omega, by omega, ?_, by omega, by omega⟩
          have hl : L.length - 1 < L.length := by omega
          simp only [List.getD, List.getElem?_eq_getElem hl]
          exact hL _ (List.getElem_mem hl)
        · cases h
    · split at h
      · split at h
        · simp only [Except.ok.injEq, Prod.mk.injEq] at h
          obtain ⟨⟨rfl, rfl⟩, rfl⟩ := h
          have := numAt_lt I k 3
          omega
        · cases h
      · split at h
        · split at h
          · simp only [Except.ok.injEq, Prod.mk.injEq] at h
            obtain ⟨⟨rfl, rfl⟩, rfl⟩ := h
            have := numAt_lt I k 7
            omega
          · cases h
        · simp only [Except.ok.injEq, Prod.mk.injEq] at h
          obtain ⟨⟨rfl, rfl⟩, rfl⟩ := h
          omega

/-- A list's length, off its value. -/
def lenOf : Value → Nat | .slice _ n _ => n | _ => 0

theorem CodeAt.fr {B : Nat} {w w' : World} {cl g : Nat} {C : Cd} (h : CodeAt B w cl C g) (f : Fr (One B) w w') : CodeAt B w' cl C g :=
  ⟨(f.block _ (lt_of_heap h.hc) (by have := h.hcB; simp [One]; omega)).trans h.hc, (f.block _ (lt_of_heap h.hS) (by have := h.hgB; simp [One]; omega)).trans h.hS, h.hcB, h.hgB⟩

theorem IntsAt.of_owns {w : World} {base g n cap : Nat} {L : List Nat} (h : w.ownsRow base 3 1 (.slice (some ⟨g, 0, none⟩) n cap) n ((ni L).map (Value.int .i64))) : IntsAt w g 0 (ni L) := by
  rcases h.2 with ⟨h1, _⟩ | ⟨g', cap', cur, h1, h2, h3, h4, h5, h6, h7⟩
  · cases h1
  · simp at h1
    obtain ⟨rfl, rfl⟩ := h1
    refine ⟨lt_of_heap h3, fun i hi => ?_⟩
    have hn : ((ni L).map (Value.int .i64)).length = n * 1 := h.1
    simp only [List.length_map] at hn
    rw [cell_of_heap h3, Nat.zero_add]
    have e : (cur.toList.take (n * 1))[i]? = ((ni L).map (Value.int .i64))[i]? := by rw [h7]
    rw [List.getElem?_take, if_pos (by omega)] at e
    simp only [Array.getElem?_toList] at e
    rw [e]
    simp [List.getD, hi]

theorem RdAt.block {E : Env} {w w' : World} {i : Nat} {ov fx : Value} (h : RdAt E w i ov fx) (hb : w'.heap[E.B]? = w.heap[E.B]?) : RdAt E w' i ov fx := by
  obtain ⟨p, held, left, q1, q2⟩ := h
  exact ⟨p, held, left, hb.trans q1, q2⟩

theorem ni_append (a b : List Nat) : ni (a ++ b) = ni a ++ ni b := by simp [ni]

set_option maxRecDepth 100000 in
set_option maxHeartbeats 2000000 in
theorem row_at (E : Env) (i cl gc size F : Nat) (C : Cd) (ov fx : Value) (w : World) (hE : E.Ok w) (h : RdAt E w i ov fx) (hC : CodeAt E.B w cl C gc) (hw : C.Wf) (h19 : ∀ i, C.S.getD i 0 < 19) (hsize : size ≤ 320) (hF : size < F) :
    Calls Tryd.prog 68 #[.pointer (some ⟨E.B, 0, none⟩), .pointer (some ⟨cl, 0, none⟩), .int .i64 size] w fun r w' =>
      ((∃ L j g cap, rowGo E.I C size F i [] = .ok (L, j) ∧ r = .returned (.slice (some ⟨g, 0, none⟩) L.length cap) ∧ IntsAt w' g 0 (ni L) ∧ w.heap.size ≤ g ∧ L.length = size ∧ size ≤ cap ∧ (∀ x ∈ L, x < 16) ∧ RdAt E w' j ov fx) ∨ (∃ x, rowGo E.I C size F i [] = .error x ∧ r = stop x)) ∧ Fr (One E.B) w w' := by
  obtain ⟨i0, hi, hz0, hz1, hz2⟩ := info_parts info3
  have hB := h.lt
  have hgB : ¬ w.heap.size = E.B := by omega
  go_enter Tryd.func68, Tryd.ntmps68
  go_wp2_with (at_make; refine wpList_make_own _ rfl _ _ 36 rfl w.heap.size 3 i0 (.int .i64 0) 1 underlying36 hi hz0 hz1 .i64 .i64 size size rfl rfl rfl ?b1 ?b2 ?b3 ?go)
  case b1 => rw [hz2]; omega
  case b2 => unfold maxLen; omega
  case b3 => simp
  case go =>
    intro w1 hown hg
    have hfr : Fr (One E.B) w w1 := (Fr.refl _ _).grown hg (fun k e => by cases e)
    have hr1 : RdAt E w1 i ov fx := h.block (hg.block E.B hB (by simp))
    clear hg
    go_wp2_with fail
    go_loopw [7] (fun rv wr => ∃ (f j : Nat) (L : List Nat), rv = .slice (some ⟨w.heap.size, 0, none⟩) L.length size ∧ Hid (rowGo E.I C size f j L = rowGo E.I C size F i []) ∧ size < f + L.length ∧ L.length ≤ size ∧ (∀ x ∈ L, x < 16) ∧ wr.ownsRow w.heap.size 3 1 (.slice (some ⟨w.heap.size, 0, none⟩) L.length size) L.length ((ni L).map (Value.int .i64)) ∧ RdAt E wr j ov fx ∧ Fr (One E.B) w wr) (fun rv _ => size - lenOf rv)
    case atStart => exact ⟨F, i, [], rfl, rfl, by simpa using hF, by simp, by simp, hown, hr1, hfr⟩
    case round =>
      obtain ⟨f, j, L, rfl, hr, hf, hl, hx, ho, hrd, hfw⟩ := hrel
      have hia := IntsAt.of_owns ho
      have hCr := hC.fr hfw
      have hEr := hE.one hfw
      have hszr := hia.lt
      cases f with
      | zero => omega
      | succ f =>
        have hr2 := hr.out
        simp only [rowGo] at hr2
        by_cases hlt : L.length < size
        · rw [if_neg (by omega)] at hr2
          have HR2 : Hid _ := hr2; clear hr2
          go_wp2_with fail
          refine (run_at E j cl gc w.heap.size size C L ov fx wr hEr hrd hCr hw hia hgB (by omega)).mono ?_
          rintro e w2 ⟨(⟨a, t, j2, g1, rfl, g2⟩ | ⟨x, g1, rfl⟩), f2⟩
          · obtain ⟨t1, t2, ha, hj1, hj2⟩ := runE_ok g1 h19 (fun i => (hw.syms i).1) hx
            have hr3 := HR2.out
            simp only [g1] at hr3
            have HR3 : Hid _ := hr3; clear hr3 HR2 g1
            have ho2 := owns_keep (w' := w2) ho (fun g hg hs => f2.block g hs (by have := (owns_block ho hg).1; simp [One]; omega))
            by_cases hbig : size < L.length + t
            · have hr4 := HR3.out
              rw [if_pos hbig] at hr4
              have HR4 : Hid _ := hr4; clear hr4 HR3
              go_wp2_with (go_at_call 45; refine (giveUp_any _ _).mono ?_; rintro e w' ⟨rfl, rfl⟩)
              exact ⟨rfl, Or.inr ⟨3, HR4.out.symm, rfl⟩, hfw.trans f2⟩
            · have hr4 := HR3.out
              rw [if_neg hbig] at hr4
              have HR4 : Hid _ := hr4; clear hr4 HR3
              go_wp2_with fail
              go_loopw [7, 31] (fun rv mv wr3 => ∃ m : Nat, m ≤ t ∧ mv = .int .i64 m ∧ rv = .slice (some ⟨w.heap.size, 0, none⟩) (L.length + m) size ∧ wr3.ownsRow w.heap.size 3 1 (.slice (some ⟨w.heap.size, 0, none⟩) (L.length + m) size) (L.length + m) ((ni (L ++ List.replicate m a)).map (Value.int .i64)) ∧ RdAt E wr3 j2 ov fx ∧ Fr (One E.B) w wr3) (fun _ mv _ => t - (intOf mv).toNat)
              case atStart => exact ⟨0, by omega, rfl, rfl, by simpa using ho2, g2, hfw.trans f2⟩
              case round =>
                obtain ⟨m, hm, rfl, rfl, ho3, hrd3, hfw3⟩ := hrel
                by_cases hmt : m < t
                · go_wp2_with (at_builtin; refine wpList_append_fits _ rfl (.tmp 33) (.tmp 35) 36 rfl w.heap.size 3 i0 1 underlying36 hi hz1 w.heap.size (L.length + m) size ((ni (L ++ List.replicate m a)).map (Value.int .i64)) rfl ?own ⟨wr.heap.size, 0, none⟩ 1 1 [.int .i64 (a : Nat)] rfl rfl ?c1 ?c2 ?b1 ?grow)
                  case own => exact owns_keep ho3 (fun g _ hg => heap_alloc_old hg _)
                  case c1 => intro q u hq; match q, hq with | 0, hq => simp at hq; subst hq; simp [Addr.add]
                  case c2 => intro u hu; simp at hu; subst hu; rfl
                  case b1 => omega
                  case grow =>
                    intro w5 ho5 hg5
                    have hfw5 : Fr (One E.B) w w5 := (hfw3.alloc _).grown hg5 (fun k e hk => by cases e; omega)
                    have hrd5 : RdAt E w5 j2 ov fx := (hrd3.block (heap_alloc_old hrd3.lt _)).block (hg5.block E.B (by have := hrd3.lt; simp; omega) (by simp; omega))
                    clear hg5
                    go_wp2_with fail
                    go_roundw
                    case rel =>
                      refine ⟨m + 1, by omega, by go_num, rfl, ?_, hrd5, hfw5⟩
                      have e1 : ni (L ++ List.replicate (m + 1) a) = ni (L ++ List.replicate m a) ++ [(a : Int)] := by
                        rw [List.replicate_succ', ← List.append_assoc, ni_append]; rfl
                      rw [e1, List.map_append]
                      exact ho5
                    case measure => simp [intOf]; omega
                · have : m = t := by omega
                  subst this
                  go_wp2_with fail
                  go_roundw
                  case rel =>
                    refine ⟨f, j2, L ++ List.replicate m a, by simp, HR4.out, by simp; omega, by simp; omega, ?_, ?_, hrd3, hfw3⟩
                    · intro x hxm
                      rcases List.mem_append.1 hxm with h1 | h1
                      · exact hx x h1
                      · rw [List.eq_of_mem_replicate h1]; exact ha
                    · simpa using ho3
                  case measure => simp [lenOf]; omega
          · have hr3 := HR2.out
            simp only [g1] at hr3
            have HR3 : Hid _ := hr3; clear hr3 HR2 g1
            go_wp2_with fail
            exact ⟨rfl, Or.inr ⟨x, HR3.out.symm, rfl⟩, hfw.trans f2⟩
        · rw [if_pos (by omega)] at hr2
          have HR2 : Hid _ := hr2; clear hr2
          go_wp2_with fail
          go_ret
          exact ⟨Or.inl ⟨L, j, w.heap.size, size, HR2.out.symm, rfl, hia, Nat.le_refl _, by omega, Nat.le_refl _, hx, hrd⟩, hfw⟩

end Go.Proofs.YtdpobjgfnhjagaaDoor

