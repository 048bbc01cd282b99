import Derived.Test.YtdpobjgfnhjagaaDoorMb
import Derived.Deep.CutRange
import Derived.BigRegion
import Derived.Deep.RegionWith
import Derived.Deep.RegionLaw
import Derived.WalkSmall
namespace Go.Proofs.YtdpobjgfnhjagaaDoor
open Go.RowKit

/-- The lengths of a dynamic block's codes. -/
def dynE (I : List UInt8) (i : Nat) : Except Int ((List Nat × List Nat) × Nat) :=
  if 8 * I.length < i + 14 then .error 2
  else if 286 < numAt I i 5 + 257 ∨ 30 < numAt I (i + 5) 5 + 1 then .error 3
  else match clE I (numAt I (i + 10) 4 + 4) (i + 14) with
    | .error x => .error x
    | .ok (cl, j) =>
      match rowGo I (mkC cl) (numAt I i 5 + 257 + (numAt I (i + 5) 5 + 1)) 400 j [] with
      | .error x => .error x
      | .ok (L, k) =>
        if goodB (mkC (L.take (numAt I i 5 + 257))) = false ∨ L.getD 256 0 = 0 then .error 3
        else if goodB (mkC (L.drop (numAt I i 5 + 257))) = false ∧ 0 < (mkC (L.drop (numAt I i 5 + 257))).S.length then .error 3
        else .ok ((L.take (numAt I i 5 + 257), L.drop (numAt I i 5 + 257)), k)

theorem CodeAt.grow {B : Nat} {w w' : World} {cl g : Nat} {C : Cd} (h : CodeAt B w cl C g) (hb : Below w.heap.size w w') : CodeAt B w' cl C g :=
  ⟨(hb.block _ (lt_of_heap h.hc)).trans h.hc, (hb.block _ (lt_of_heap h.hS)).trans h.hS, h.hcB, h.hgB⟩

theorem IntsAt.take {w : World} {g o : Nat} {L : List Nat} (n : Nat) (h : IntsAt w g o (ni L)) : IntsAt w g o (ni (L.take n)) := by
  refine ⟨h.lt, fun i hi => ?_⟩
  simp only [ni_length, List.length_take] at hi
  rw [h.cell i (by rw [ni_length]; omega), ni_getD, ni_getD]
  simp only [List.getD, List.getElem?_take]
  rw [if_pos (by omega)]
theorem IntsAt.drop {w : World} {g o : Nat} {L : List Nat} (n : Nat) (h : IntsAt w g o (ni L)) : IntsAt w g (o + n) (ni (L.drop n)) := by
  refine ⟨h.lt, fun i hi => ?_⟩
  simp only [ni_length, List.length_drop] at hi
  rw [Nat.add_assoc, h.cell (n + i) (by rw [ni_length]; omega), ni_getD, ni_getD]
  simp only [List.getD, List.getElem?_drop]

set_option maxRecDepth 100000 in
set_option maxHeartbeats 4000000 in
set_option maxRecDepth 100000 in
theorem dynamicPair_at (E : Env) (i : Nat) (ov fx : Value) (w : World) (hE : E.Ok w) (hO : OrdAt w) (h : RdAt E w i ov fx) :
    Calls Tryd.prog 43 #[.pointer (some ⟨E.B, 0, none⟩)] w fun r w' =>
      ((∃ A D j pb cl gl cd gd, dynE E.I i = .ok ((A, D), j) ∧ r = .returned (.pointer (some ⟨pb, 0, none⟩)) ∧ PairAt E.B w' pb (mkC A) (mkC D) cl gl cd gd ∧ RdAt E w' j ov fx ∧ (mkC A).Wf ∧ (mkC D).Wf) ∨ (∃ x, dynE E.I i = .error x ∧ r = stop x)) ∧ Fr (One E.B) w w' := by
  have hB0 : 0 < E.B := by have := hE.hb; omega
  have hB := h.lt
  go_enter Tryd.func43, Tryd.ntmps43
  go_wp2_with fail
  refine (number_lit E i 5 5 ov fx w hE h (by omega) rfl).mono ?_
  rintro e w1 ⟨(⟨q1, rfl, r1⟩ | ⟨q1, rfl⟩), f1⟩
  rotate_left
  · go_wp2_with fail
    exact ⟨rfl, Or.inr ⟨2, if_pos (by omega), rfl⟩, f1⟩
  have n1 := numAt_lt E.I i 5
  go_wp2_with fail
  refine (number_lit E (i + 5) 5 5 ov fx w1 (hE.one f1) r1 (by omega) rfl).mono ?_
  rintro e w2 ⟨(⟨q2, rfl, r2⟩ | ⟨q2, rfl⟩), f2⟩
  rotate_left
  · go_wp2_with fail
    exact ⟨rfl, Or.inr ⟨2, if_pos (by omega), rfl⟩, f1.trans f2⟩
  have n2 := numAt_lt E.I (i + 5) 5
  go_wp2_with fail
  refine (number_lit E (i + 5 + 5) 4 4 ov fx w2 ((hE.one f1).one f2) r2 (by omega) rfl).mono ?_
  rintro e w3 ⟨(⟨q3, rfl, r3⟩ | ⟨q3, rfl⟩), f3⟩
  rotate_left
  · go_wp2_with fail
    exact ⟨rfl, Or.inr ⟨2, if_pos (by omega), rfl⟩, (f1.trans f2).trans f3⟩
  rw [show i + 5 + 5 = i + 10 from rfl] at *
  rw [show i + 10 + 4 = i + 14 from rfl] at *
  have n3 := numAt_lt E.I (i + 10) 4
  have f03 := (f1.trans f2).trans f3
  have hd0 : dynE E.I i = (if 286 < numAt E.I i 5 + 257 ∨ 30 < numAt E.I (i + 5) 5 + 1 then .error 3
    else match clE E.I (numAt E.I (i + 10) 4 + 4) (i + 14) with
    | .error x => .error x
    | .ok (cl, j) =>
      match rowGo E.I (mkC cl) (numAt E.I i 5 + 257 + (numAt E.I (i + 5) 5 + 1)) 400 j [] with
      | .error x => .error x
      | .ok (L, k) =>
        if goodB (mkC (L.take (numAt E.I i 5 + 257))) = false ∨ L.getD 256 0 = 0 then .error 3
        else if goodB (mkC (L.drop (numAt E.I i 5 + 257))) = false ∧ 0 < (mkC (L.drop (numAt E.I i 5 + 257))).S.length then .error 3
        else .ok ((L.take (numAt E.I i 5 + 257), L.drop (numAt E.I i 5 + 257)), k)) := by
    unfold dynE
    rw [if_neg (by omega)]
  have HD0 : Hid _ := hd0; clear hd0
  have hE3 := hE.one f03
  have hO3 := hO.one f03 hB0
  clear f1 f2 f3 r1 r2 q1 q2
  generalize numAt E.I i 5 = a at *
  generalize numAt E.I (i + 5) 5 = b at *
  generalize numAt E.I (i + 10) 4 = c at *
  by_cases hbig : 286 < a + 257 ∨ 30 < b + 1
  · have hd1 := HD0.out
    rw [if_pos hbig] at hd1
    have HD1 : Hid _ := hd1; clear hd1 HD0
    by_cases hb1 : 286 < a + 257
    · clear hbig
      go_wp2_with (go_at_call 45; refine (giveUp_any _ _).mono ?_; rintro e w' ⟨rfl, rfl⟩)
      exact ⟨rfl, Or.inr ⟨3, HD1.out, rfl⟩, f03⟩
    · have hb2 : 30 < b + 1 := by omega
      clear hbig
      go_wp2_with (go_at_call 45; refine (giveUp_any _ _).mono ?_; rintro e w' ⟨rfl, rfl⟩)
      exact ⟨rfl, Or.inr ⟨3, HD1.out, rfl⟩, f03⟩
  · have hd1 := HD0.out
    rw [if_neg hbig] at hd1
    have HD1 : Hid _ := hd1; clear hd1 HD0
    have hb1 : a + 257 ≤ 286 := by omega
    have hb2 : b + 1 ≤ 30 := by omega
    clear hbig
    go_wp2_with fail
    have et : ((c : Int) + 4) = ((c + 4 : Nat) : Int) := by omega
    rw [et]
    refine (codeOfLengths_at E (i + 14) (c + 4) ov fx w3 hE3 hO3 r3 (by omega)).mono ?_
    rintro e w4 ⟨(⟨lens, j, cl, gc, g1, rfl, hC4, r4, hx4, hl4⟩ | ⟨x, g1, rfl⟩), f4⟩
    rotate_left
    · have hd2 := HD1.out
      simp only [g1] at hd2
      have HD2 : Hid _ := hd2; clear hd2 HD1 g1
      clear et
      go_wp2_with fail
      exact ⟨rfl, Or.inr ⟨x, HD2.out, rfl⟩, f03.trans f4⟩
    have hd2 := HD1.out
    simp only [g1] at hd2
    have HD2 : Hid _ := hd2; clear hd2 HD1 g1 et
    obtain ⟨hwf4, _⟩ := mk_spec lens hx4 (by omega)
    have hs19 : ∀ i, (mkC lens).S.getD i 0 < 19 := fun i => by have := mk_syms lens (by omega) i; omega
    go_wp2_with fail
    have et : ((a : Int) + 257 + ((b : Int) + 1)) = ((a + 257 + (b + 1) : Nat) : Int) := by omega
    rw [et]
    refine (row_at E j cl gc (a + 257 + (b + 1)) 400 (mkC lens) ov fx w4 (hE3.one f4) r4 hC4 hwf4 hs19 (by omega) (by omega)).mono ?_
    rintro e w5 ⟨(⟨L, k, g, cap, g1, rfl, hia, hgw, hLl, hcap, hx5, r5⟩ | ⟨x, g1, rfl⟩), f5⟩
    rotate_left
    · have hd3 := HD2.out
      simp only [g1] at hd3
      have HD3 : Hid _ := hd3; clear hd3 HD2 g1
      clear et
      go_wp2_with fail
      exact ⟨rfl, Or.inr ⟨x, HD3.out, rfl⟩, (f03.trans f4).trans f5⟩
    have hd3 := HD2.out
    simp only [g1] at hd3
    have HD3 : Hid _ := hd3; clear hd3 HD2 g1 et
    have f05 := (f03.trans f4).trans f5
    have hgB : E.B < g := by have := r4.lt; omega
    go_wp2_with fail
    obtain ⟨nl, hnl⟩ : ∃ nl, a + 257 = nl := ⟨_, rfl⟩
    obtain ⟨nd, hnd⟩ : ∃ nd, b + 1 = nd := ⟨_, rfl⟩
    have enl : ((a : Int) + 257) = (nl : Int) := by omega
    have end' : ((b : Int) + 1) = (nd : Int) := by omega
    rw [enl, end', hnl, hnd]
    have hd4 := HD3.out
    rw [hnl] at hd4
    have HD4 : Hid _ := hd4; clear hd4 HD3
    rw [hnl, hnd] at hLl hcap
    have hnl1 : 257 ≤ nl := by omega
    have hnl2 : nl ≤ 286 := by omega
    have hnd1 : 1 ≤ nd := by omega
    have hnd2 : nd ≤ 30 := by omega
    clear enl end' hnl hnd n1 n2 n3 hb1 hb2 q3
    have hlA : (L.take nl).length = nl := by rw [List.length_take]; omega
    have hlD : (L.drop nl).length = nd := by rw [List.length_drop]; omega
    have hxA : ∀ x ∈ L.take nl, x < 16 := fun x hx => hx5 x (List.mem_of_mem_take hx)
    have hxD : ∀ x ∈ L.drop nl, x < 16 := fun x hx => hx5 x (List.mem_of_mem_drop hx)
    have hMA : ∀ W, Below w5.heap.size w5 W → Calls Tryd.prog 67 #[.slice (some ⟨g, 0, none⟩) nl cap] W fun e W' => e = .returned (.pointer (some ⟨W.heap.size, 0, none⟩)) ∧ CodeAt E.B W' W.heap.size (mkC (L.take nl)) (W.heap.size + 3) ∧ Below W.heap.size W W' ∧ Below w5.heap.size w5 W' := by
      intro W hW
      refine (make_at g 0 nl cap (L.take nl) W hlA (by omega) hxA ((hia.below hW hia.lt).take nl)).mono ?_
      rintro e W' ⟨rfl, k1, k2⟩
      exact ⟨rfl, k1 E.B (by have := hW.size; have := r5.lt; omega), k2, hW.trans (k2.mono hW.size)⟩
    have hMD : ∀ W c', Below w5.heap.size w5 W → Calls Tryd.prog 67 #[.slice (some ⟨g, nl, none⟩) nd c'] W fun e W' => e = .returned (.pointer (some ⟨W.heap.size, 0, none⟩)) ∧ CodeAt E.B W' W.heap.size (mkC (L.drop nl)) (W.heap.size + 3) ∧ Below W.heap.size W W' ∧ Below w5.heap.size w5 W' := by
      intro W c' hW
      refine (make_at g nl nd c' (L.drop nl) W hlD (by omega) hxD (by have := (hia.below hW hia.lt).drop nl; rwa [Nat.zero_add] at this)).mono ?_
      rintro e W' ⟨rfl, k1, k2⟩
      exact ⟨rfl, k1 E.B (by have := hW.size; have := r5.lt; omega), k2, hW.trans (k2.mono hW.size)⟩
    have HMA : Hid _ := hMA; clear hMA
    have HMD : Hid _ := hMD; clear hMD
    have hcn : ¬ cap = nl := by omega
    have hci : (nl : Int) ≤ (cap : Int) := by omega
    have hcm : (nl : Int) ≤ (nl : Int) + (nd : Int) := by omega
    have hcd : (nl : Int) + (nd : Int) ≤ (cap : Int) := by omega
    go_cut [7] from 38 to 47 (fun pv wc => ∃ pb clA gA clD gD, pv = .pointer (some ⟨pb, 0, none⟩) ∧ PairAt E.B wc pb (mkC (L.take nl)) (mkC (L.drop nl)) clA gA clD gD ∧ Below w5.heap.size w5 wc)
    case first =>
      go_region_with (first
        | (go_at_call_of 67 (Value.slice (some ⟨g, 0, none⟩) nl cap); refine Calls.mono (HMA.out _ (by first | exact hbD | exact (Below.refl _ _).drew)) ?_; rintro e wA ⟨rfl, hCA, hgA, hbA⟩)
        | (go_at_call_of 67 (Value.slice (some ⟨g, nl, none⟩) nd (cap - nl)); refine Calls.mono (HMD.out _ _ (by first | exact hbA | exact (Below.refl _ _).drew)) ?_; rintro e wD ⟨rfl, hCD, hgD, hbD⟩))
      go_wp2_with fail
      go_meet
      case rel =>
        have hw5 := r5.lt
        have s1 := hbA.size
        have s2 := hbD.size
        refine ⟨wD.heap.size, w5.heap.size, w5.heap.size + 3, wA.heap.size, wA.heap.size + 3, rfl, ⟨heap_alloc_new _ _, by omega, ?_, ?_⟩, hbD.alloc s2 _⟩
        · exact (hCA.grow hgD).grow ((Below.refl _ _).alloc (Nat.le_refl _) _)
        · exact hCD.grow ((Below.refl _ _).alloc (Nat.le_refl _) _)
    case rest =>
      obtain ⟨pb, clA, gA, clD, gD, rfl, hP, hbc⟩ := hcut
      obtain ⟨hwA, _⟩ := mk_spec (L.take nl) hxA (by omega)
      obtain ⟨hwD, _⟩ := mk_spec (L.drop nl) hxD (by omega)
      have fc : Fr (One E.B) w wc := f05.trans ⟨hbc.os, hbc.tape, hbc.output, hbc.size, fun k hk _ => hbc.block k hk⟩
      have rc : RdAt E wc k ov fx := r5.block (hbc.block _ r5.lt)
      have p0 := cell_of_heap hP.hp 0
      have p1 := cell_of_heap hP.hp 1
      simp at p0 p1
      have h256 := (hia.below hbc hia.lt).cell 256 (by rw [ni_length]; omega)
      rw [ni_getD, Nat.zero_add] at h256
      go_wp2_with fail
      refine (good_at E.B clA gA _ wc hP.hL hwA).mono ?_
      rintro e wx ⟨rfl, rfl⟩
      cases hgA : goodB (mkC (L.take nl)) with
      | false =>
        have hd5 := HD4.out
        rw [if_pos (Or.inl hgA)] at hd5
        have HD5 : Hid _ := hd5; clear hd5 HD4 hgA
        go_wp2_with (go_at_call 45; refine (giveUp_any _ _).mono ?_; rintro e w' ⟨rfl, rfl⟩)
        exact ⟨rfl, Or.inr ⟨3, HD5.out, rfl⟩, fc⟩
      | true =>
        by_cases hz : L.getD 256 0 = 0
        · have hd5 := HD4.out
          rw [if_pos (Or.inr hz)] at hd5
          rw [hz] at h256
          have HD5 : Hid _ := hd5; clear hd5 HD4 hgA hz
          go_wp2_with (go_at_call 45; refine (giveUp_any _ _).mono ?_; rintro e w' ⟨rfl, rfl⟩)
          exact ⟨rfl, Or.inr ⟨3, HD5.out, rfl⟩, fc⟩
        · have hd5 := HD4.out
          rw [if_neg (by rw [hgA]; simp only [Bool.true_eq_false, false_or]; exact hz)] at hd5
          have HD5 : Hid _ := hd5; clear hd5 HD4 hgA
          generalize L.getD 256 0 = z at hz h256
          have hzb : ((z : Int) == 0) = false := by simp; omega
          go_wp2_with fail
          refine (good_at E.B clD gD _ wx hP.hD hwD).mono ?_
          rintro e wy ⟨rfl, rfl⟩
          cases hgD : goodB (mkC (L.drop nl)) with
          | true =>
            have hd6 := HD5.out
            rw [if_neg (by rw [hgD]; simp)] at hd6
            have HD6 : Hid _ := hd6; clear hd6 HD5 hgD
            go_wp2_with fail
            go_ret
            exact ⟨Or.inl ⟨_, _, _, pb, clA, gA, clD, gD, HD6.out, rfl, hP, rc, hwA, hwD⟩, fc⟩
          | false =>
            have hs := size_at E.B clD gD _ wy hP.hD hwD
            have HS : Hid _ := hs; clear hs
            by_cases hsz : 0 < (mkC (L.drop nl)).S.length
            · have hd6 := HD5.out
              rw [if_pos ⟨hgD, hsz⟩] at hd6
              have HD6 : Hid _ := hd6; clear hd6 HD5 hgD
              generalize (mkC (L.drop nl)).S.length = sl at hsz HS
              go_wp2_with (first | (go_at_call 71; refine Calls.mono HS.out ?_; rintro e w' ⟨rfl, rfl⟩) | (go_at_call 45; refine (giveUp_any _ _).mono ?_; rintro e w' ⟨rfl, rfl⟩))
              exact ⟨rfl, Or.inr ⟨3, HD6.out, rfl⟩, fc⟩
            · have hd6 := HD5.out
              rw [if_neg (by intro h; exact hsz h.2)] at hd6
              have HD6 : Hid _ := hd6; clear hd6 HD5 hgD
              generalize (mkC (L.drop nl)).S.length = sl at hsz HS
              go_wp2_with (go_at_call 71; refine Calls.mono HS.out ?_; rintro e w' ⟨rfl, rfl⟩)
              go_ret
              exact ⟨Or.inl ⟨_, _, _, pb, clA, gA, clD, gD, HD6.out, rfl, hP, rc, hwA, hwD⟩, fc⟩

end Go.Proofs.YtdpobjgfnhjagaaDoor

namespace Go.Proofs.YtdpobjgfnhjagaaDoor
open Go.RowKit

theorem lits_lt : ∀ x ∈ lits, x < 16 := by decide +kernel
theorem dists_lt : ∀ x ∈ dists, x < 16 := by decide +kernel

/-- The fixed codes are made, or not yet. -/
def FxOk (B : Nat) (w : World) (fx : Value) : Prop :=
  fx = .pointer none ∨ ∃ pb cl gl cd gd, fx = .pointer (some ⟨pb, 0, none⟩) ∧ PairAt B w pb (mkC lits) (mkC dists) cl gl cd gd

theorem FxOk.kp {B : Nat} {w w' : World} {fx : Value} (h : FxOk B w fx) (k : Kp B w w') : FxOk B w' fx := by
  rcases h with h | ⟨pb, cl, gl, cd, gd, h, hp⟩
  · exact Or.inl h
  · exact Or.inr ⟨pb, cl, gl, cd, gd, h, hp.kp k⟩

set_option maxRecDepth 100000 in
set_option maxHeartbeats 1000000 in
theorem fixedPair_at (E : Env) (i : Nat) (ov fx : Value) (w : World) (h : RdAt E w i ov fx) (hfx : FxOk E.B w fx) :
    Calls Tryd.prog 42 #[.pointer (some ⟨E.B, 0, none⟩)] w fun r w' => ∃ pb cl gl cd gd, r = .returned (.pointer (some ⟨pb, 0, none⟩)) ∧ PairAt E.B w' pb (mkC lits) (mkC dists) cl gl cd gd ∧ RdAt E w' i ov (.pointer (some ⟨pb, 0, none⟩)) ∧ Fr (One E.B) w w' := by
  obtain ⟨p, held, left, hh, hs⟩ := h
  have hB := lt_of_heap hh
  obtain ⟨c0, c1, c2, c3, c4, c5, c6, hf⟩ := rb_cells hh
  have HH : Hid _ := hh; clear hh
  rcases hfx with rfl | ⟨pb, cl, gl, cd, gd, rfl, hp⟩
  · go_enter Tryd.func42, Tryd.ntmps42
    go_wp2_with fail
    refine (fixedLiterals_any w).mono ?_
    rintro e w1 ⟨rfl, k1, b1⟩
    have s1 := lt_of_heap k1
    have i1 := IntsAt.of_heap k1
    clear k1
    go_wp2_with fail
    refine (make_at w.heap.size 0 288 288 lits w1 lits_length (by omega) lits_lt i1).mono ?_
    rintro e w2 ⟨rfl, k2, b2⟩
    have k2' := k2 E.B (by omega)
    have s2 := lt_of_heap k2'.hc
    clear k2
    go_wp2_with fail
    refine (fixedDistances_any w2).mono ?_
    rintro e w3 ⟨rfl, k3, b3⟩
    have s3 := lt_of_heap k3
    have i3 := IntsAt.of_heap k3
    clear k3
    go_wp2_with fail
    refine (make_at w2.heap.size 0 32 32 dists w3 dists_length (by omega) dists_lt i3).mono ?_
    rintro e w4 ⟨rfl, k4, b4⟩
    have k4' := k4 E.B (by omega)
    clear k4
    have f4 : Below w.heap.size w w4 := ((b1.trans (b2.mono (by omega))).trans (b3.mono (by omega))).trans (b4.mono (by omega))
    have h4 : w4.heap[E.B]? = some (RB (.slice (some ⟨E.b, E.o, none⟩) E.I.length E.c) p held left ov E.lim (.pointer none)) := (f4.block E.B hB).trans HH.out
    obtain ⟨d0, d1, d2, d3, d4, d5, d6, df⟩ := rb_cells h4
    have H4 : Hid _ := h4; clear h4
    have s4 := f4.size
    have hB4 : E.B < w4.heap.size := by omega
    have kA : CodeAt E.B w4 w1.heap.size (mkC lits) (w1.heap.size + 3) := (k2'.grow b3).grow b4
    clear c0 c1 c2 c3 c4 c5 c6 hf
    go_wp2_with fail
    go_ret
    have fw : Fr (One E.B) w w4 := ⟨f4.os, f4.tape, f4.output, f4.size, fun k hk _ => f4.block k hk⟩
    have ff : Fr (One E.B) w4 ((w4.setCell ⟨E.B, 6, none⟩ (.pointer (some ⟨w4.heap.size, 0, none⟩))).alloc (.cells #[.pointer (some ⟨w1.heap.size, 0, none⟩), .pointer (some ⟨w3.heap.size, 0, none⟩)] 106)) := ((Fr.refl (One E.B) w4).setCell (p := ⟨E.B, 6, none⟩) rfl _).alloc _
    refine ⟨w4.heap.size, w1.heap.size, w1.heap.size + 3, w3.heap.size, w3.heap.size + 3, rfl, ⟨?_, hB4, kA.fr ff, k4'.fr ff⟩, ⟨p, held, left, ?_, hs⟩, fw.trans ff⟩
    · have e : (w4.setCell ⟨E.B, 6, none⟩ (.pointer (some ⟨w4.heap.size, 0, none⟩))).heap.size = w4.heap.size := by simp [World.setCell]
      have := heap_alloc_new (w4.setCell ⟨E.B, 6, none⟩ (.pointer (some ⟨w4.heap.size, 0, none⟩))) (.cells #[.pointer (some ⟨w1.heap.size, 0, none⟩), .pointer (some ⟨w3.heap.size, 0, none⟩)] 106)
      rw [e] at this
      exact this
    · have := heap_set H4.out 6 (.pointer (some ⟨w4.heap.size, 0, none⟩))
      exact (heap_alloc_old (by simpa [World.setCell] using hB4) _).trans (by simpa using this)
  · go_enter Tryd.func42, Tryd.ntmps42
    go_wp2_with fail
    go_ret
    exact ⟨pb, cl, gl, cd, gd, rfl, hp, ⟨p, held, left, HH.out, hs⟩, Fr.refl _ _⟩

/-- A stored block: its length's place is p (in bytes). -/
def stGo (I : List UInt8) (lim : Int) : Nat → Nat → List UInt8 → Except Int (Nat × List UInt8)
  | 0, p, out => .ok (p, out)
  | n + 1, p, out => if I.length ≤ p then .error 2 else if lim ≤ out.length then .error 4 else stGo I lim n (p + 1) (out ++ [I.getD p 0])
def two (I : List UInt8) (p : Nat) : Nat := (I.getD p 0).toNat + 256 * (I.getD (p + 1) 0).toNat
def stE (I : List UInt8) (lim : Int) (p : Nat) (out : List UInt8) : Except Int (Nat × List UInt8) :=
  if I.length < p + 4 then .error 2
  else if two I p ^^^ two I (p + 2) ≠ 65535 then .error 3
  else stGo I lim (two I p) (p + 4) out

theorem two_lt (I : List UInt8) (p : Nat) : two I p < 65536 := by
  have h1 := (I.getD p 0).toNat_lt
  have h2 := (I.getD (p + 1) 0).toNat_lt
  unfold two
  omega

set_option maxRecDepth 100000 in
set_option maxHeartbeats 2000000 in
set_option maxRecDepth 100000 in
theorem stored_at (E : Env) (i : Nat) (out : List UInt8) (fx : Value) (w : World) (hE : E.Ok w) (h : Rd E w i out fx) (hlim : E.lim ≤ 60000) (hout : (out.length : Int) ≤ E.lim) :
    Calls Tryd.prog 41 #[.pointer (some ⟨E.B, 0, none⟩)] w fun r w' =>
      ((∃ p out', stE E.I E.lim ((i + 7) / 8) out = .ok (p, out') ∧ r = .returned (.tuple #[]) ∧ Rd E w' (8 * p) out' fx ∧ (out'.length : Int) ≤ E.lim ∧ (i + 7) / 8 + 4 ≤ p ∧ p ≤ E.I.length) ∨ (∃ x, stE E.I E.lim ((i + 7) / 8) out = .error x ∧ r = stop x)) ∧ Kp E.B w w' := by
  obtain ⟨ov, ⟨p, held, left, hh, s1, s2, s3, s4⟩, ho⟩ := h
  have hp8 : (i + 7) / 8 = p := by omega
  rw [hp8]
  have hbB : E.b ≠ E.B := by have := hE.hb; omega
  have hBw := lt_of_heap hh
  have hI := hE.hI
  have hl := hE.hl
  clear s4
  have HH : Hid _ := hh; clear hh
  go_enter Tryd.func41, Tryd.ntmps41
  go_wp2_with fail
  refine (pass_any E.B p held left E.lim _ ov fx w HH.out).mono ?_
  rintro e w1 ⟨rfl, k1, f1⟩
  have K1 : Hid _ := k1; clear k1
  go_wp2_with fail
  by_cases t1 : E.I.length < p + 2
  · refine (two_short E.B E.b E.o E.c p held 0 E.lim E.I ov fx w1 K1.out s3 t1 hl hbB (hI.keep f1 hbB)).mono ?_
    rintro e w2 ⟨rfl, f2⟩
    go_wp2_with fail
    exact ⟨rfl, Or.inr ⟨2, if_pos (by omega), rfl⟩, Kp.one hBw (f1.trans f2)⟩
  have I1 : Lies w1 E.b E.o E.I := hI.keep f1 hbB
  refine (two_ok E.B E.b E.o E.I.length E.c p held 0 E.lim _ _ ov fx w1 K1.out (by omega) hl hbB (I1 p (by omega)) (I1 (p + 1) (by omega)) (u8_lt _).1 (u8_lt _).2 (u8_lt _).1 (u8_lt _).2).mono ?_
  rintro e w2 ⟨rfl, k2, f2⟩
  have e1 : ((E.I.getD p 0).toNat : Int) + 256 * ((E.I.getD (p + 1) 0).toNat : Int) = (two E.I p : Int) := by unfold two; push_cast; rfl
  rw [e1]
  have K2 : Hid _ := k2; clear k2 e1
  go_wp2_with fail
  by_cases t2 : E.I.length < p + 4
  · refine (two_short E.B E.b E.o E.c (p + 2) held 0 E.lim E.I ov fx w2 K2.out (by omega) (by omega) hl hbB (I1.keep f2 hbB)).mono ?_
    rintro e w3 ⟨rfl, f3⟩
    go_wp2_with fail
    exact ⟨rfl, Or.inr ⟨2, if_pos (by omega), rfl⟩, Kp.one hBw ((f1.trans f2).trans f3)⟩
  have I2 : Lies w2 E.b E.o E.I := I1.keep f2 hbB
  refine (two_ok E.B E.b E.o E.I.length E.c (p + 2) held 0 E.lim _ _ ov fx w2 K2.out (by omega) hl hbB (I2 (p + 2) (by omega)) (I2 (p + 2 + 1) (by omega)) (u8_lt _).1 (u8_lt _).2 (u8_lt _).1 (u8_lt _).2).mono ?_
  rintro e w3 ⟨rfl, k3, f3⟩
  have e1 : ((E.I.getD (p + 2) 0).toNat : Int) + 256 * ((E.I.getD (p + 2 + 1) 0).toNat : Int) = (two E.I (p + 2) : Int) := by unfold two; push_cast; rfl
  rw [e1]
  have I3 : Lies w3 E.b E.o E.I := I2.keep f3 hbB
  have K3 : Hid _ := k3; clear k3 e1 I2
  have l1 := two_lt E.I p
  have l2 := two_lt E.I (p + 2)
  have hx := xor_i64_nat (two E.I p) (two E.I (p + 2)) (by omega) (by omega)
  have hst : stE E.I E.lim p out = if two E.I p ^^^ two E.I (p + 2) ≠ 65535 then .error 3 else stGo E.I E.lim (two E.I p) (p + 4) out := by
    unfold stE; rw [if_neg (by omega)]
  have HST : Hid _ := hst; clear hst
  have f03 := (f1.trans f2).trans f3
  have ho3 := own_one ho f03
  generalize two E.I p = n at *
  generalize two E.I (p + 2) = m at *
  by_cases hxe : n ^^^ m = 65535
  · have h4 := HST.out
    rw [if_neg (by simpa using hxe)] at h4
    have HS4 : Hid _ := h4; clear h4 HST
    rw [hxe] at hx
    have hx' : bits BinOp.xor IntKind.i64 (n : Int) (m : Int) = 65535 := hx
    clear hx hxe
    go_wp2_with fail
    go_loopw [22] (fun k wr => ∃ (j : Nat) (o2 : List UInt8), j ≤ n ∧ k = .int .i64 j ∧ p + 4 + j ≤ E.I.length ∧ Hid (stGo E.I E.lim (n - j) (p + 4 + j) o2 = stE E.I E.lim p out) ∧ (o2.length : Int) ≤ E.lim ∧ (∃ ov', wr.heap[E.B]? = some (RB (.slice (some ⟨E.b, E.o, none⟩) E.I.length E.c) (p + 4 + j : Nat) held 0 ov' E.lim fx) ∧ wr.ownsRow (E.B + 1) 5 1 ov' o2.length (bv8 o2)) ∧ Lies wr E.b E.o E.I ∧ Kp E.B w wr) (fun k _ => n - (intOf k).toNat)
    case atStart => exact ⟨0, out, by omega, rfl, by omega, HS4.out.symm, hout, ⟨ov, K3.out, ho3⟩, I3, Kp.one hBw f03⟩
    case round =>
      obtain ⟨j, o2, hj, rfl, hj1, hr, hol, ⟨ov', hh, hw⟩, hIr, hkp⟩ := hrel
      have HK : Hid _ := hh; clear hh
      have hBr := lt_of_heap HK.out
      by_cases hjn : j < n
      · have hr1 := hr.out
        rw [show n - j = (n - (j + 1)) + 1 by omega] at hr1
        simp only [stGo] at hr1
        go_wp2_with fail
        by_cases t3 : p + 4 + j = E.I.length
        · rw [if_pos (by omega)] at hr1
          have HR1 : Hid _ := hr1; clear hr1
          have K4 := HK.out
          rw [t3] at K4
          refine (take_short E.B _ E.I.length E.c held 0 E.lim ov' fx wr K4).mono ?_
          rintro e w4 ⟨rfl, rfl⟩
          clear K4
          go_wp2_with fail
          exact ⟨rfl, Or.inr ⟨2, HR1.out.symm, rfl⟩, hkp.trans (Kp.one hBr (Fr.refl _ _).drew)⟩
        rw [if_neg (by omega)] at hr1
        have HR1 : Hid _ := hr1; clear hr1
        refine (take_ok E.B E.b E.o E.I.length E.c (p + 4 + j) held 0 E.lim _ ov' fx wr HK.out (by omega) hl hbB (hIr (p + 4 + j) (by omega))).mono ?_
        rintro e w4 ⟨rfl, k4, f4⟩
        have K4 : Hid _ := k4; clear k4
        have hw4 := own_one hw f4
        have hk4 := hkp.trans (Kp.one hBr f4)
        have hB4 := lt_of_heap K4.out
        generalize E.I.getD (p + 4 + j) 0 = ch at HR1 ⊢
        go_wp2_with fail
        by_cases t4 : (o2.length : Int) = E.lim
        · have hr2 := HR1.out
          rw [if_pos (by omega)] at hr2
          have HR2 : Hid _ := hr2; clear hr2
          have K5 := K4.out
          rw [← t4] at K5
          refine (put_limit E.B _ held 0 _ o2.length _ ov' fx _ w4 (E.B + 1) K5 hw4).mono ?_
          rintro e w5 ⟨rfl, rfl⟩
          clear K5
          go_wp2_with fail
          exact ⟨rfl, Or.inr ⟨4, HR2.out.symm, rfl⟩, hk4.trans (Kp.one hB4 (Fr.refl _ _).drew)⟩
        have hr2 := HR1.out
        rw [if_neg (by omega)] at hr2
        have HR2 : Hid _ := hr2; clear hr2
        refine (put_ok E.B _ held 0 E.lim _ o2.length _ ov' fx _ w4 K4.out hw4 (by omega) hlim).mono ?_
        rintro e w5 ⟨rfl, ov5, k5, o5, f5⟩
        have K5 : Hid _ := k5; clear k5
        have hk5 := Kp.put hB4 hw4 f5
        go_wp2_with fail
        go_roundw
        case rel =>
          refine ⟨j + 1, o2 ++ [ch], by omega, by go_num, by omega, HR2.out, by simp; omega, ⟨ov5, K5.out, ?_⟩, ?_, hk4.trans hk5⟩
          · rw [bv8_append, List.length_append]; exact o5
          · exact fun i hi => (hk5.below.cell (p := ⟨E.b, E.o + i, none⟩) hE.hb).trans ((hIr.keep f4 hbB) i hi)
        case measure => simp [intOf]; omega
      · have : j = n := by omega
        subst this
        have hr1 := hr.out
        rw [Nat.sub_self] at hr1
        simp only [stGo] at hr1
        have HR1 : Hid _ := hr1; clear hr1
        go_wp2_with fail
        go_end0
        exact ⟨Or.inl ⟨p + 4 + j, o2, HR1.out.symm, rfl, ⟨ov', ⟨_, _, 0, HK.out, by omega, by omega, by omega, fun h => by omega⟩, hw⟩, hol, by omega, hj1⟩, hkp⟩
  · have h4 := HST.out
    rw [if_pos (by simpa using hxe)] at h4
    have HS4 : Hid _ := h4; clear h4 HST
    have hxn : (((n ^^^ m : Nat) : Int) != 65535) = true := by rw [bne_iff_ne]; omega
    go_wp2_with (go_at_call 45; refine (giveUp_any _ _).mono ?_; rintro e w' ⟨rfl, rfl⟩)
    exact ⟨rfl, Or.inr ⟨3, HS4.out, rfl⟩, Kp.one hBw f03⟩

end Go.Proofs.YtdpobjgfnhjagaaDoor

namespace Go.Proofs.YtdpobjgfnhjagaaDoor
open Go.RowKit

/-- One block, behind its kind. -/
def blkE (I : List UInt8) (lim : Int) (kind i : Nat) (out : List UInt8) : Except Int (Nat × List UInt8) :=
  if kind = 0 then
    match stE I lim ((i + 7) / 8) out with
    | .error x => .error x
    | .ok (p, o) => .ok (8 * p, o)
  else if kind = 1 then symsGo I (mkC lits) (mkC dists) lim (8 * I.length + 1) i out
  else if kind = 2 then
    match dynE I i with
    | .error x => .error x
    | .ok ((A, D), j) => symsGo I (mkC A) (mkC D) lim (8 * I.length + 1) j out
  else .error 3

/-- All blocks. -/
def blksGo (I : List UInt8) (lim : Int) : Nat → Nat → List UInt8 → Except Int (Nat × List UInt8)
  | 0, _, _ => .error 0
  | f + 1, i, out =>
    if 8 * I.length < i + 3 then .error 2
    else match blkE I lim (numAt I (i + 1) 2) (i + 3) out with
      | .error x => .error x
      | .ok (j, o) => if bitAt I i = 1 then .ok (j, o) else blksGo I lim f j o

theorem numAt_ok {I : List UInt8} {cl : List Nat} {told i j : Nat} (h : clE I told i = .ok (cl, j)) : i ≤ j := by
  have key : ∀ n k i L L' j, clGo I n k i L = .ok (L', j) → i ≤ j := by
    intro n
    induction n with
    | zero => intro k i L L' j h; simp only [clGo, Except.ok.injEq, Prod.mk.injEq] at h; omega
    | succ n ih =>
      intro k i L L' j h
      simp only [clGo] at h
      split at h
      · have := ih _ _ _ _ _ h; omega
      · cases h
  unfold clE at h
  split at h
  · cases h
  · rename_i L' j' hs
    split at h
    · simp only [Except.ok.injEq, Prod.mk.injEq] at h
      obtain ⟨rfl, rfl⟩ := h
      exact key _ _ _ _ _ _ hs
    · cases h

theorem runE_mono {I : List UInt8} {C : Cd} {L : List Nat} {i a t j : Nat} (h : runE I C L i = .ok ((a, t), j)) : i < j := by
  unfold runE at h
  split at h
  · cases h
  · rename_i v k hs
    obtain ⟨_, h1, h2⟩ := symGo_val hs
    repeat' split at h
    all_goals first
      | cases h; done
      | (simp only [Except.ok.injEq, Prod.mk.injEq] at h; omega)
theorem rowGo_mono {I : List UInt8} {C : Cd} {size f i j : Nat} {L L' : List Nat} (h : rowGo I C size f i L = .ok (L', j)) : i ≤ j := by
  induction f generalizing i L with
  | zero => simp [rowGo] at h
  | succ f ih =>
    simp only [rowGo] at h
    split at h
    · simp only [Except.ok.injEq, Prod.mk.injEq] at h; omega
    · split at h
      · cases h
      · rename_i a t k hs
        split at h
        · cases h
        · have := ih h
          have := runE_mono hs
          omega
theorem dynE_mono {I : List UInt8} {i j : Nat} {A D : List Nat} (h : dynE I i = .ok ((A, D), j)) : i ≤ j := by
  unfold dynE at h
  split at h
  · cases h
  · split at h
    · cases h
    · split at h
      · cases h
      · rename_i cl k hs
        split at h
        · cases h
        · rename_i L m hr
          split at h
          · cases h
          · split at h
            · cases h
            · simp only [Except.ok.injEq, Prod.mk.injEq] at h
              have := numAt_ok hs
              have := rowGo_mono hr
              omega

set_option maxRecDepth 100000 in
set_option maxHeartbeats 2000000 in
theorem block_at (E : Env) (i kind : Nat) (out : List UInt8) (fx : Value) (w : World) (hE : E.Ok w) (hO : OrdAt w) (h : Rd E w i out fx) (hfx : FxOk E.B w fx) (hlim : E.lim ≤ 60000) (hout : (out.length : Int) ≤ E.lim) (hk : kind < 4) :
    Calls Tryd.prog 23 #[.pointer (some ⟨E.B, 0, none⟩), .int .i64 kind] w fun r w' =>
      ((∃ j out' fx', blkE E.I E.lim kind i out = .ok (j, out') ∧ r = .returned (.tuple #[]) ∧ Rd E w' j out' fx' ∧ FxOk E.B w' fx' ∧ (out'.length : Int) ≤ E.lim ∧ i ≤ j) ∨ (∃ x, blkE E.I E.lim kind i out = .error x ∧ r = stop x)) ∧ Below E.B w w' := by
  have hBw := h.lt
  have hB0 : 0 < E.B := by have := hE.hb; omega
  match kind, hk with
  | 0, _ =>
    go_enter Tryd.func23, Tryd.ntmps23
    go_wp2_with fail
    refine (stored_at E i out fx w hE h hlim hout).mono ?_
    rintro e w1 ⟨(⟨p, o2, g1, rfl, g2, g3, g4, g5⟩ | ⟨x, g1, rfl⟩), k1⟩
    · have hb : blkE E.I E.lim 0 i out = .ok (8 * p, o2) := by unfold blkE; rw [if_pos rfl, g1]
      have HB : Hid _ := hb; clear hb g1
      have hf1 := hfx.kp k1
      go_wp2_with fail
      go_end0
      exact ⟨Or.inl ⟨8 * p, o2, fx, HB.out, rfl, g2, hf1, g3, by omega⟩, k1.below⟩
    · have hb : blkE E.I E.lim 0 i out = .error x := by unfold blkE; rw [if_pos rfl, g1]
      have HB : Hid _ := hb; clear hb g1
      go_wp2_with fail
      exact ⟨rfl, Or.inr ⟨x, HB.out, rfl⟩, k1.below⟩
  | 1, _ =>
    obtain ⟨ov, hat, hown⟩ := id h
    have hb0 : blkE E.I E.lim 1 i out = symsGo E.I (mkC lits) (mkC dists) E.lim (8 * E.I.length + 1) i out := by
      unfold blkE; rw [if_neg (by omega), if_pos rfl]
    have HB0 : Hid _ := hb0; clear hb0
    obtain ⟨hwL, _⟩ := mk_spec lits lits_lt (by rw [lits_length]; omega)
    obtain ⟨hwD, _⟩ := mk_spec dists dists_lt (by rw [dists_length]; omega)
    have bp := (bitPos_at hat).2
    go_enter Tryd.func23, Tryd.ntmps23
    go_wp2_with fail
    refine (fixedPair_at E i ov fx w hat hfx).mono ?_
    rintro e w1 ⟨pb, cl, gl, cd, gd, rfl, hP, r1, f1⟩
    have hrd1 : Rd E w1 i out (.pointer (some ⟨pb, 0, none⟩)) := ⟨ov, r1, own_one hown f1⟩
    go_wp2_with fail
    refine (symbols_at E i pb cl gl cd gd (8 * E.I.length + 1) (mkC lits) (mkC dists) out _ w1 (hE.one f1) hrd1 hP hwL hwD hlim hout (by omega)).mono ?_
    rintro e w2 ⟨(⟨j, o2, g1, rfl, g2, g3, g4⟩ | ⟨x, g1, rfl⟩), k2⟩
    · have G1 : Hid _ := g1; clear g1
      have hP2 := hP.kp k2
      have hbl := (Kp.one hBw f1).below.trans k2.below
      go_wp2_with fail
      go_end0
      exact ⟨Or.inl ⟨j, o2, _, HB0.out.trans G1.out, rfl, g2, Or.inr ⟨pb, cl, gl, cd, gd, rfl, hP2⟩, g3, by omega⟩, hbl⟩
    · have G1 : Hid _ := g1; clear g1
      have hbl := (Kp.one hBw f1).below.trans k2.below
      go_wp2_with fail
      exact ⟨rfl, Or.inr ⟨x, HB0.out.trans G1.out, rfl⟩, hbl⟩
  | 2, _ =>
    obtain ⟨ov, hat, hown⟩ := id h
    have hb0 : blkE E.I E.lim 2 i out = match dynE E.I i with
        | .error x => .error x
        | .ok ((A, D), j) => symsGo E.I (mkC A) (mkC D) E.lim (8 * E.I.length + 1) j out := by
      unfold blkE; rw [if_neg (by omega), if_neg (by omega), if_pos rfl]
    have HB0 : Hid _ := hb0; clear hb0
    go_enter Tryd.func23, Tryd.ntmps23
    go_wp2_with fail
    refine (dynamicPair_at E i ov fx w hE hO hat).mono ?_
    rintro e w1 ⟨(⟨A, D, j, pb, cl, gl, cd, gd, g1, rfl, hP, r1, hwA, hwD⟩ | ⟨x, g1, rfl⟩), f1⟩
    · have hb1 := HB0.out
      simp only [g1] at hb1
      have HB1 : Hid _ := hb1; clear hb1 HB0
      have hij : i ≤ j := dynE_mono g1
      clear g1
      have hrd1 : Rd E w1 j out fx := ⟨ov, r1, own_one hown f1⟩
      have bp := (bitPos_at r1).2
      go_wp2_with fail
      refine (symbols_at E j pb cl gl cd gd (8 * E.I.length + 1) (mkC A) (mkC D) out fx w1 (hE.one f1) hrd1 hP hwA hwD hlim hout (by omega)).mono ?_
      rintro e w2 ⟨(⟨j2, o2, g1, rfl, g2, g3, g4⟩ | ⟨x, g1, rfl⟩), k2⟩
      · have G1 : Hid _ := g1; clear g1
        have hf2 := (hfx.kp (Kp.one hBw f1)).kp k2
        have hbl := (Kp.one hBw f1).below.trans k2.below
        go_wp2_with fail
        go_end0
        exact ⟨Or.inl ⟨j2, o2, fx, HB1.out.trans G1.out, rfl, g2, hf2, g3, by omega⟩, hbl⟩
      · have G1 : Hid _ := g1; clear g1
        have hbl := (Kp.one hBw f1).below.trans k2.below
        go_wp2_with fail
        exact ⟨rfl, Or.inr ⟨x, HB1.out.trans G1.out, rfl⟩, hbl⟩
    · have hb1 := HB0.out
      simp only [g1] at hb1
      have HB1 : Hid _ := hb1; clear hb1 HB0 g1
      have hbl := (Kp.one hBw f1).below
      go_wp2_with fail
      exact ⟨rfl, Or.inr ⟨x, HB1.out, rfl⟩, hbl⟩
  | 3, _ =>
    have hb : blkE E.I E.lim 3 i out = .error 3 := rfl
    have HB : Hid _ := hb; clear hb
    go_enter Tryd.func23, Tryd.ntmps23
    go_wp2_with (go_at_call 45; refine (giveUp_any _ _).mono ?_; rintro e w' ⟨rfl, rfl⟩)
    exact ⟨rfl, Or.inr ⟨3, HB.out, rfl⟩, Below.refl _ _⟩

/-- The truth in a slot. -/
def boolOf : Value → Bool | .bool b => b | _ => false

set_option maxRecDepth 100000 in
set_option maxHeartbeats 2000000 in
theorem blocks_at (E : Env) (F : Nat) (w : World) (hE : E.Ok w) (hO : OrdAt w) (h : Rd E w 0 [] (.pointer none)) (hl0 : 0 ≤ E.lim) (hlim : E.lim ≤ 60000) (hF : 8 * E.I.length < F) :
    Calls Tryd.prog 15 #[.pointer (some ⟨E.B, 0, none⟩)] w fun r w' =>
      ((∃ j out fx', blksGo E.I E.lim F 0 [] = .ok (j, out) ∧ r = .returned (.tuple #[]) ∧ Rd E w' j out fx') ∨ (∃ x, blksGo E.I E.lim F 0 [] = .error x ∧ r = stop x)) ∧ Below E.B w w' := by
  have hB0 : 0 < E.B := by have := hE.hb; omega
  have hBw := h.lt
  go_enter Tryd.func15, Tryd.ntmps15
  go_wp2_with fail
  go_loopw [2] (fun t wr => (t = .bool false ∧ ∃ (f i : Nat) (out : List UInt8) (fx : Value), Hid (blksGo E.I E.lim f i out = blksGo E.I E.lim F 0 []) ∧ 8 * E.I.length < f + i ∧ Rd E wr i out fx ∧ FxOk E.B wr fx ∧ (out.length : Int) ≤ E.lim ∧ Below E.B w wr) ∨ (t = .bool true ∧ Below E.B w wr ∧ ∃ j out fx, Hid (blksGo E.I E.lim F 0 [] = .ok (j, out)) ∧ Rd E wr j out fx)) (fun t wr => if boolOf t then 0 else 8 * E.I.length + 1 - bitPos E.B wr)
  case atStart => exact Or.inl ⟨rfl, F, 0, [], .pointer none, rfl, by omega, h, Or.inl rfl, by simpa using hl0, Below.refl _ _⟩
  case round =>
    rcases hrel with ⟨rfl, f, i, out, fx, hr, hf, hrd, hfx, hol, hbl⟩ | ⟨rfl, hbl, j, out, fx, hr, hrd⟩
    · obtain ⟨ov, hat, hown⟩ := id hrd
      obtain ⟨bp1, bp2⟩ := bitPos_at hat
      have BP1 : Hid _ := bp1; clear bp1
      have hEr : E.Ok wr := ⟨hE.hl, hE.hb, fun i hi => (hbl.cell (p := ⟨E.b, E.o + i, none⟩) hE.hb).trans (hE.hI i hi)⟩
      have hOr := hO.below hbl hB0
      have hBr := hrd.lt
      cases f with
      | zero => omega
      | succ f =>
        have hr1 := hr.out
        simp only [blksGo] at hr1
        have HR1 : Hid _ := hr1; clear hr1
        go_wp2_with fail
        refine (bit_at E i ov fx wr hEr hat).mono ?_
        rintro e w1 ⟨(⟨g1, rfl, g2⟩ | ⟨g1, rfl⟩), f1⟩
        rotate_left
        · have hr2 := HR1.out
          rw [if_pos (by omega)] at hr2
          have HR2 : Hid _ := hr2; clear hr2 HR1
          have hb1 := hbl.trans (Kp.one hBr f1).below
          go_wp2_with fail
          exact ⟨rfl, Or.inr ⟨2, HR2.out.symm, rfl⟩, hb1⟩
        have hbt := bitAt_lt E.I i
        obtain ⟨bt, hbte⟩ : ∃ bt, Hid (bitAt E.I i = bt) := ⟨_, rfl⟩
        rw [hbte.out] at hbt ⊢
        go_wp2_with fail
        refine (number_lit E (i + 1) 2 2 ov fx w1 (hEr.one f1) g2 (by omega) rfl).mono ?_
        rintro e w2 ⟨(⟨g3, rfl, g4⟩ | ⟨g3, rfl⟩), f2⟩
        rotate_left
        · have hr2 := HR1.out
          rw [if_pos (by omega)] at hr2
          have HR2 : Hid _ := hr2; clear hr2 HR1
          have hb1 := hbl.trans (Kp.one hBr (f1.trans f2)).below
          go_wp2_with fail
          exact ⟨rfl, Or.inr ⟨2, HR2.out.symm, rfl⟩, hb1⟩
        have hr2 := HR1.out
        rw [if_neg (by omega), hbte.out] at hr2
        have hkn := numAt_lt E.I (i + 1) 2
        generalize numAt E.I (i + 1) 2 = kind at *
        have HR2 : Hid _ := hr2; clear hr2 HR1
        have hk12 := Kp.one hBr (f1.trans f2)
        have hrd2 : Rd E w2 (i + 3) out fx := ⟨ov, g4, own_one hown (f1.trans f2)⟩
        go_wp2_with fail
        refine (block_at E (i + 3) kind out fx w2 (hEr.kp hk12) (hOr.below hk12.below hB0) hrd2 (hfx.kp hk12) hlim hol (by omega)).mono ?_
        rintro e w3 ⟨(⟨j, o2, fx', g5, rfl, g6, g7, g8, g9⟩ | ⟨x, g5, rfl⟩), b3⟩
        · have hr3 := HR2.out
          simp only [g5] at hr3
          have hb3 := (hbl.trans hk12.below).trans b3
          obtain ⟨ov3, hat3, _⟩ := id g6
          obtain ⟨bp3, bp4⟩ := bitPos_at hat3
          have BP3 : Hid _ := bp3; clear bp3 g5
          by_cases hlast : bt = 1
          · subst hlast
            rw [if_pos rfl] at hr3
            have HR3 : Hid _ := hr3; clear hr3 HR2
            go_wp2_with fail
            go_roundw
            case rel => exact Or.inr ⟨rfl, hb3, j, o2, fx', HR3.out.symm, g6⟩
            case measure => rw [BP1.out]; simp [boolOf]; omega
          · rw [if_neg hlast] at hr3
            have HR3 : Hid _ := hr3; clear hr3 HR2
            have h0 : bt = 0 := by omega
            subst h0
            go_wp2_with fail
            go_roundw
            case rel => exact Or.inl ⟨rfl, f, j, o2, fx', HR3.out, by omega, g6, g7, g8, hb3⟩
            case measure => rw [BP1.out, BP3.out]; simp [boolOf]; omega
        · have hr3 := HR2.out
          simp only [g5] at hr3
          have HR3 : Hid _ := hr3; clear hr3 HR2 g5
          have hb3 := (hbl.trans hk12.below).trans b3
          go_wp2_with fail
          exact ⟨rfl, Or.inr ⟨x, HR3.out.symm, rfl⟩, hb3⟩
    · go_wp2_with fail
      go_end0
      exact ⟨Or.inl ⟨j, out, fx, hr.out, rfl, hrd⟩, hbl⟩

end Go.Proofs.YtdpobjgfnhjagaaDoor

namespace Go.Proofs.YtdpobjgfnhjagaaDoor

/-- A symbol of a row of lengths, and its bits more. -/
structure Rop where
  s : Nat
  ex : Nat

def ropM (s : Nat) : Nat := if s = 16 then 2 else if s = 17 then 3 else if s = 18 then 7 else 0
def ropBits (cl : List Nat) (o : Rop) : List Nat := codeBits cl o.s ++ lsb (ropM o.s) o.ex
/-- The length that it stands for, and how many times. -/
def ropA (L : List Nat) (o : Rop) : Nat := if o.s = 16 then L.getD (L.length - 1) 0 else if o.s = 17 then 0 else if o.s = 18 then 0 else o.s
def ropT (o : Rop) : Nat := if o.s = 16 then 3 + o.ex else if o.s = 17 then 3 + o.ex else if o.s = 18 then 11 + o.ex else 1
def ropsBits (cl : List Nat) : List Rop → List Nat
  | [] => []
  | o :: r => ropBits cl o ++ ropsBits cl r
def ropsOut : List Rop → List Nat → List Nat
  | [], L => L
  | o :: r, L => ropsOut r (L ++ List.replicate (ropT o) (ropA L o))
/-- They may stand in a row, behind L. -/
def ropOk (cl : List Nat) (L : List Nat) (o : Rop) : Prop := o.s < cl.length ∧ 0 < cl.getD o.s 0 ∧ o.ex < 2 ^ ropM o.s ∧ (o.s = 16 → L.length ≠ 0)
def ropsOk (cl : List Nat) (size : Nat) : List Rop → List Nat → Prop
  | [], L => L.length = size
  | o :: r, L => ropOk cl L o ∧ L.length < size ∧ ropsOk cl size r (L ++ List.replicate (ropT o) (ropA L o))

theorem ropsOut_le {cl : List Nat} {size : Nat} {ops : List Rop} {L : List Nat} (h : ropsOk cl size ops L) : L.length ≤ size := by
  cases ops with
  | nil => exact Nat.le_of_eq h
  | cons o r => exact Nat.le_of_lt h.2.1

theorem run_rop {I : List UInt8} {cl L : List Nat} (hc : LensOk cl) {o : Rop} (ho : ropOk cl L o) {i : Nat} (hb : HasBits I i (ropBits cl o)) : runE I (mkC cl) L i = .ok ((ropA L o, ropT o), i + (ropBits cl o).length) := by
  obtain ⟨h1, h2, h3, h4⟩ := ho
  unfold ropBits at hb ⊢
  have hs := sym_bits hc h1 h2 hb.left
  have hx := hb.right
  have hl := hx.1
  rw [lsb_length] at hl
  have hn := numAt_lsb hx h3
  rw [List.length_append, lsb_length]
  unfold runE
  rw [hs]
  simp only
  by_cases c16 : o.s = 16
  · have em : ropM o.s = 2 := by simp [ropM, c16]
    rw [em] at hl hn ⊢
    rw [if_pos (by omega), if_neg (h4 c16), if_pos hl, hn]
    simp [ropA, ropT, c16, Nat.add_assoc]
  by_cases c17 : o.s = 17
  · have em : ropM o.s = 3 := by simp [ropM, c17]
    rw [em] at hl hn ⊢
    rw [if_neg (by omega), if_pos (by omega), if_pos hl, hn]
    simp [ropA, ropT, c17, Nat.add_assoc]
  by_cases c18 : o.s = 18
  · have em : ropM o.s = 7 := by simp [ropM, c18]
    rw [em] at hl hn ⊢
    rw [if_neg (by omega), if_neg (by omega), if_pos (by omega), if_pos hl, hn]
    simp [ropA, ropT, c18, Nat.add_assoc]
  · have em : ropM o.s = 0 := by simp [ropM, c16, c17, c18]
    rw [em, if_neg (by omega), if_neg (by omega), if_neg (by omega)]
    simp [ropA, ropT, c16, c17, c18]

theorem row_rops {I : List UInt8} {cl : List Nat} (hc : LensOk cl) (size : Nat) (ops : List Rop) :
    ∀ (f i : Nat) (L : List Nat), ropsOk cl size ops L → ops.length < f → HasBits I i (ropsBits cl ops) → rowGo I (mkC cl) size f i L = .ok (ropsOut ops L, i + (ropsBits cl ops).length) := by
  induction ops with
  | nil =>
    intro f i L h hf _
    cases f with
    | zero => omega
    | succ f =>
      have : L.length = size := h
      simp only [rowGo, ropsOut, ropsBits, List.length_nil, Nat.add_zero]
      rw [if_pos (by omega)]
  | cons o r ih =>
    intro f i L h hf hb
    cases f with
    | zero => omega
    | succ f =>
      obtain ⟨h1, h2, h3⟩ := h
      simp only [ropsBits] at hb
      simp only [List.length_cons] at hf
      have hr := run_rop hc h1 hb.left
      have hle := ropsOut_le h3
      simp only [List.length_append, List.length_replicate] at hle
      simp only [rowGo, hr, ropsOut, ropsBits, List.length_append]
      rw [if_neg (by omega), if_neg (by omega), ih f _ _ h3 (by omega) hb.right, Nat.add_assoc]

/-- The lengths of the codes of lengths, as they are told. -/
def clBits (cl : List Nat) : Nat → Nat → List Nat
  | 0, _ => []
  | n + 1, k => lsb 3 (cl.getD (ordL.getD k 0) 0) ++ clBits cl n (k + 1)

theorem clBits_length (cl : List Nat) (n k : Nat) : (clBits cl n k).length = 3 * n := by
  induction n generalizing k with
  | zero => rfl
  | succ n ih => simp [clBits, lsb_length, ih]; omega

theorem getD_lt {cl : List Nat} {b : Nat} (h : ∀ x ∈ cl, x < b) (hb : 0 < b) (q : Nat) : cl.getD q 0 < b := by
  by_cases hq : q < cl.length
  · simp only [List.getD, List.getElem?_eq_getElem hq]; exact h _ (List.getElem_mem hq)
  · simp only [List.getD, List.getElem?_eq_none (Nat.not_lt.1 hq)]; exact hb

theorem clGo_bits {I : List UInt8} {cl : List Nat} (h8 : ∀ x ∈ cl, x < 8) (n : Nat) :
    ∀ (k i : Nat) (L : List Nat), HasBits I i (clBits cl n k) → ∃ L', clGo I n k i L = .ok (L', i + 3 * n) ∧ L'.length = L.length ∧
      (∀ j, k ≤ j → j < k + n → ordL.getD j 0 < L.length → L'.getD (ordL.getD j 0) 0 = cl.getD (ordL.getD j 0) 0) ∧ (∀ q, (∀ j, k ≤ j → j < k + n → ordL.getD j 0 ≠ q) → L'.getD q 0 = L.getD q 0) := by
  induction n with
  | zero =>
    intro k i L _
    exact ⟨L, rfl, rfl, fun j h1 h2 => by omega, fun q _ => rfl⟩
  | succ n ih =>
    intro k i L hb
    simp only [clBits] at hb
    have hl := hb.left
    have hlen := hl.1
    rw [lsb_length] at hlen
    have hr := hb.right
    rw [lsb_length] at hr
    have hv : cl.getD (ordL.getD k 0) 0 < 2 ^ 3 := getD_lt h8 (by omega) _
    have hn := numAt_lsb hl hv
    obtain ⟨L', g1, g2, g3, g4⟩ := ih (k + 1) (i + 3) (L.set (ordL.getD k 0) (numAt I i 3)) hr
    rw [List.length_set] at g2 g3
    refine ⟨L', ?_, g2, fun j h1 h2 h3 => ?_, fun q hq => ?_⟩
    · simp only [clGo]
      rw [if_pos hlen, g1]
      congr 2
      omega
    · by_cases c1 : ∃ j', k + 1 ≤ j' ∧ j' < k + 1 + n ∧ ordL.getD j' 0 = ordL.getD j 0
      · obtain ⟨j', h4, h5, h6⟩ := c1
        rw [← h6] at h3 ⊢
        exact g3 j' h4 h5 h3
      · have hjk : j = k := by
          rcases Nat.lt_or_ge k j with h4 | h4
          · exact absurd ⟨j, by omega, by omega, rfl⟩ c1
          · omega
        subst hjk
        rw [g4 _ (fun j' h4 h5 h6 => c1 ⟨j', h4, h5, h6⟩), getD_setN L _ _ _ h3, if_pos rfl, hn]
    · rw [g4 q (fun j h1 h2 => hq j (by omega) (by omega))]
      have hne := hq k (by omega) (by omega)
      generalize ordL.getD k 0 = z at hne ⊢
      simp only [List.getD, List.getElem?_set]
      rw [if_neg hne]

theorem ord_all : ∀ q, q < 19 → ∃ j, j < 19 ∧ ordL.getD j 0 = q := by
  have key : ∀ q : Fin 19, ∃ j : Fin 19, ordL.getD j.val 0 = q.val := by decide +kernel
  intro q hq
  obtain ⟨j, hj⟩ := key ⟨q, hq⟩
  exact ⟨j.val, j.isLt, hj⟩

theorem clGo_all {I : List UInt8} {cl : List Nat} (h19 : cl.length = 19) (h8 : ∀ x ∈ cl, x < 8) (told : Nat) (_ht : told ≤ 19) (hz : ∀ j, told ≤ j → j < 19 → cl.getD (ordL.getD j 0) 0 = 0) (i : Nat) (hb : HasBits I i (clBits cl told 0)) :
    clGo I told 0 i (List.replicate 19 0) = .ok (cl, i + 3 * told) := by
  obtain ⟨L', g1, g2, g3, g4⟩ := clGo_bits h8 told 0 i (List.replicate 19 0) hb
  rw [g1]
  have : L' = cl := by
    apply List.ext_getElem
    · rw [g2, h19]; simp
    · intro q h1 h2
      have e1 : L'.getD q 0 = L'[q] := by simp [List.getD, h1]
      have e2 : cl.getD q 0 = cl[q] := by simp [List.getD, h2]
      obtain ⟨j, hj1, hj2⟩ := ord_all q (by omega)
      rw [← e1, ← e2]
      by_cases hc : ∃ j', j' < told ∧ ordL.getD j' 0 = q
      · obtain ⟨j', h3, h4⟩ := hc
        have := g3 j' (by omega) (by omega) (by rw [h4]; simp; omega)
        rw [h4] at this
        exact this
      · have hge : told ≤ j := by
          rcases Nat.lt_or_ge j told with h5 | h5
          · exact absurd ⟨j, h5, hj2⟩ hc
          · exact h5
        have h6 := hz j hge hj1
        rw [hj2] at h6
        rw [g4 q (fun j' _ h8 h9 => hc ⟨j', by omega, h9⟩), h6]
        simp only [List.getD, List.getElem?_replicate]
        split <;> rfl
  rw [this]

/-- A dynamic block's head: how many codes, the codes of lengths, the row. -/
def dynBits (nl nd told : Nat) (cl : List Nat) (ops : List Rop) : List Nat :=
  lsb 5 (nl - 257) ++ (lsb 5 (nd - 1) ++ (lsb 4 (told - 4) ++ (clBits cl told 0 ++ ropsBits cl ops)))

theorem dyn_bits {I : List UInt8} {nl nd told : Nat} {cl : List Nat} {ops : List Rop} {i : Nat} (hnl1 : 257 ≤ nl) (hnl2 : nl ≤ 286) (hnd1 : 1 ≤ nd) (hnd2 : nd ≤ 30) (ht1 : 4 ≤ told) (ht2 : told ≤ 19)
    (h19 : cl.length = 19) (h8 : ∀ x ∈ cl, x < 8) (hz : ∀ j, told ≤ j → j < 19 → cl.getD (ordL.getD j 0) 0 = 0) (hg : goodB (mkC cl) = true)
    (ho : ropsOk cl (nl + nd) ops []) (hol : ops.length < 400) (hA : goodB (mkC ((ropsOut ops []).take nl)) = true) (h256 : (ropsOut ops []).getD 256 0 ≠ 0) (hD : goodB (mkC ((ropsOut ops []).drop nl)) = true ∨ (mkC ((ropsOut ops []).drop nl)).S.length = 0)
    (hb : HasBits I i (dynBits nl nd told cl ops)) :
    dynE I i = .ok (((ropsOut ops []).take nl, (ropsOut ops []).drop nl), i + (dynBits nl nd told cl ops).length) := by
  have hcl : LensOk cl := ⟨fun x hx => by have := h8 x hx; omega, by omega, fun s hs hn => good_fit cl (fun x hx => by have := h8 x hx; omega) (by omega) hg s hs hn⟩
  unfold dynBits at hb ⊢
  have b1 := hb.left
  have r1 := hb.right
  have b2 := r1.left
  have r2 := r1.right
  have b3 := r2.left
  have r3 := r2.right
  have b4 := r3.left
  have b5 := r3.right
  have l3 := b3.1
  simp only [lsb_length, clBits_length] at b2 b3 b4 b5 l3
  have e1 := numAt_lsb b1 (show nl - 257 < 2 ^ 5 by omega)
  have e2 := numAt_lsb b2 (show nd - 1 < 2 ^ 5 by omega)
  have e3 := numAt_lsb b3 (show told - 4 < 2 ^ 4 by omega)
  rw [show i + 5 + 5 = i + 10 from rfl] at e3 b4 b5 l3
  rw [show i + 10 + 4 = i + 14 from rfl] at b4 b5 l3
  have hlen : (lsb 5 (nl - 257) ++ (lsb 5 (nd - 1) ++ (lsb 4 (told - 4) ++ (clBits cl told 0 ++ ropsBits cl ops)))).length = 14 + 3 * told + (ropsBits cl ops).length := by
    simp only [List.length_append, lsb_length, clBits_length]; omega
  rw [hlen]
  unfold dynE
  rw [if_neg (by omega), e1, e2, e3, if_neg (by omega), show nl - 257 + 257 = nl by omega, show nd - 1 + 1 = nd by omega, show told - 4 + 4 = told by omega]
  have hcle : clE I told (i + 14) = .ok (cl, i + 14 + 3 * told) := by
    unfold clE
    rw [clGo_all h19 h8 told ht2 hz (i + 14) b4]
    simp [hg]
  rw [hcle]
  simp only
  rw [row_rops hcl (nl + nd) ops 400 _ [] ho hol b5]
  simp only
  rw [if_neg (by rw [hA]; simp only [Bool.true_eq_false, false_or]; exact h256), if_neg (by
    rintro ⟨h1, h2⟩
    rcases hD with h3 | h3
    · rw [h3] at h1; cases h1
    · omega)]
  congr 2
  omega

end Go.Proofs.YtdpobjgfnhjagaaDoor

namespace Go.Proofs.YtdpobjgfnhjagaaDoor
open Go.RowKit

/-- Inflate: what comes out and how many bytes the stream has; or the error. -/
def inflE (I : List UInt8) (lim : Int) : Except Int (List UInt8 × Nat) :=
  match blksGo I lim (8 * I.length + 1) 0 [] with
  | .error x => .error x
  | .ok (j, out) => .ok (out, (j + 7) / 8)

/-- An answer of Inflate is this one. -/
def Says (w : World) (F : Except Int (List UInt8 × Nat)) (e : Ending) (w' : World) : Prop :=
  ((∃ out n ov, F = .ok (out, n) ∧ e = .returned (.tuple #[ov, .int .i64 (n : Nat), .int .i64 0]) ∧ w'.ownsRow w.heap.size 5 1 ov out.length (bv8 out)) ∨ (∃ x, F = .error x ∧ e = .returned (.tuple #[.slice none 0 0, .int .i64 0, .int .i64 x]))) ∧ Below w.heap.size w w'

theorem stream_says (b o c : Nat) (lim : Int) (I : List UInt8) (w : World) (hl : I.length ≤ maxLen) (hb : b < w.heap.size) (hI : Lies w b o I) (hO : OrdAt w) (hl0 : 0 ≤ lim) (hlim : lim ≤ 60000) :
    Calls Tryd.prog 12 #[.slice (some ⟨b, o, none⟩) I.length c, .int .i64 lim] w (Says w (inflE I lim)) := by
  obtain ⟨a0, a1, a2, a3, a4, a5⟩ := W0_heap w (.slice (some ⟨b, o, none⟩) I.length c) lim
  have hI0 : Lies (W0 w (.slice (some ⟨b, o, none⟩) I.length c) lim) b o I := hI.keep (Fr.of_below a5) (by omega)
  have hE : Env.Ok ⟨w.heap.size + 3, b, o, c, I, lim⟩ (W0 w (.slice (some ⟨b, o, none⟩) I.length c) lim) := ⟨hl, by show b < w.heap.size + 3; omega, hI0⟩
  have hB := blocks_at ⟨w.heap.size + 3, b, o, c, I, lim⟩ (8 * I.length + 1) (W0 w (.slice (some ⟨b, o, none⟩) I.length c) lim) hE (hO.below a5 (by omega)) ⟨.slice none 0 0, ⟨0, 0, 0, a3, by simp [Stand]⟩, ⟨rfl, Or.inl ⟨rfl, rfl⟩⟩⟩ hl0 hlim (by show 8 * I.length < _; omega)
  refine (stream_of (some ⟨b, o, none⟩) I.length c lim w hl0 hlim _ hB ?_).mono ?_
  · rintro e w1 ⟨(⟨j, out, fx, h1, h2, ov, ⟨p, held, left, h3, h4⟩, h5⟩ | ⟨x, h1, h2⟩), h6⟩
    · obtain ⟨ao, cp, rfl⟩ := owns_slice h5
      exact ⟨Fr.of_below h6, Or.inl ⟨h2, _, _, _, _, _, _, _, h3⟩⟩
    · exact ⟨Fr.of_below h6, Or.inr ⟨x, h2⟩⟩
  · rintro e w' ⟨e1, w1, ⟨hcase, hb1⟩, hc⟩
    have hbel : Below w.heap.size w w1 := a5.trans (hb1.mono (by show w.heap.size ≤ w.heap.size + 3; omega))
    rcases hc with ⟨q, held, left, fx, oa, on, oc, rfl, f, hB2, rfl⟩ | ⟨x, rfl, f, rfl⟩
    · have hbel' : Below w.heap.size w w' := hbel.trans (f.below hbel.size (by intro k hk; omega))
      rcases hcase with ⟨j, out, fx', h1, _, ov, ⟨p, held', left', h3, h4⟩, h5⟩ | ⟨x, _, h2⟩
      · change w1.heap[w.heap.size + 3]? = some (RB (.slice (some ⟨b, o, none⟩) I.length c) p held' left' ov lim fx') at h3
        change w1.ownsRow (w.heap.size + 3 + 1) 5 1 ov out.length (bv8 out) at h5
        obtain ⟨ao, cp, rfl⟩ := owns_slice h5
        rw [hB2] at h3
        simp at h3
        obtain ⟨rfl, rfl, rfl, ⟨rfl, rfl, rfl⟩, rfl⟩ := h3
        refine ⟨Or.inl ⟨out, p, _, ?_, rfl, ?_⟩, hbel'⟩
        · have h1' : blksGo I lim (8 * I.length + 1) 0 [] = .ok (j, out) := h1
          unfold inflE
          rw [h1']
          obtain ⟨g1, g2, _⟩ := h4
          show Except.ok (out, (j + 7) / 8) = Except.ok (out, p)
          rw [show (j + 7) / 8 = p by omega]
        · have h6 := owns_keep (w' := w') h5 fun g hg hs => f.block g hs (by have := (owns_block h5 hg).1; omega)
          exact owns_base (base' := w.heap.size) h6 (by omega)
      · cases h2
    · have hbel' : Below w.heap.size w w' := hbel.trans (f.below hbel.size (by intro k hk; omega))
      rcases hcase with ⟨j, out, fx', _, h2, _⟩ | ⟨x', h1, h2⟩
      · cases h2
      · simp [stop] at h2
        subst h2
        refine ⟨Or.inr ⟨x, ?_, rfl⟩, hbel'⟩
        have h1' : blksGo I lim (8 * I.length + 1) 0 [] = .error x := h1
        unfold inflE
        rw [h1']

/-- spool.Inflate, of any bytes. -/
theorem inflate_says (b o n c : Nat) (lim : Int) (I : List UInt8) (w : World) (hn : I.length = n) (hl : I.length ≤ maxLen) (hb : b < w.heap.size) (hI : Lies w b o I) (hO : OrdAt w) (hl0 : 0 ≤ lim) (hlim : lim ≤ 60000) :
    Calls Tryd.prog 8 #[.slice (some ⟨b, o, none⟩) n c, .int .i64 lim] w (Says w (inflE I lim)) := by
  subst hn
  refine inflate_of _ lim w _ (stream_says b o c lim I w hl hb hI hO hl0 hlim) ?_
  rintro e w' ⟨(⟨out, n, ov, _, h, _⟩ | ⟨x, _, h⟩), _⟩
  · exact ⟨_, _, _, h⟩
  · exact ⟨_, _, _, h⟩

end Go.Proofs.YtdpobjgfnhjagaaDoor

namespace Go.Proofs.YtdpobjgfnhjagaaDoor

/-- Bits in bytes, each byte's lowest bit first; noughts behind. -/
def byteOf (bs : List Nat) (k : Nat) : Nat :=
  bs.getD (8 * k) 0 + 2 * bs.getD (8 * k + 1) 0 + 4 * bs.getD (8 * k + 2) 0 + 8 * bs.getD (8 * k + 3) 0 + 16 * bs.getD (8 * k + 4) 0 + 32 * bs.getD (8 * k + 5) 0 + 64 * bs.getD (8 * k + 6) 0 + 128 * bs.getD (8 * k + 7) 0
def pack (bs : List Nat) : List UInt8 := (List.range ((bs.length + 7) / 8)).map fun k => UInt8.ofNat (byteOf bs k)

theorem pack_length (bs : List Nat) : (pack bs).length = (bs.length + 7) / 8 := by simp [pack]

theorem pack_bits (bs : List Nat) (h2 : ∀ x ∈ bs, x < 2) (rest : List UInt8) : HasBits (pack bs ++ rest) 0 bs := by
  refine ⟨by simp only [List.length_append, pack_length]; omega, fun k hk => ?_⟩
  rw [Nat.zero_add]
  have hq : k / 8 < (pack bs).length := by rw [pack_length]; omega
  have hd : ∀ j, bs.getD j 0 < 2 := fun j => getD_lt h2 (by omega) j
  unfold bitAt
  have e : (pack bs ++ rest).getD (k / 8) 0 = UInt8.ofNat (byteOf bs (k / 8)) := by
    simp only [List.getD, List.getElem?_append_left hq, List.getElem?_eq_getElem hq]
    simp [pack]
  rw [e]
  have hb0 := hd (8 * (k / 8))
  have hb1 := hd (8 * (k / 8) + 1)
  have hb2 := hd (8 * (k / 8) + 2)
  have hb3 := hd (8 * (k / 8) + 3)
  have hb4 := hd (8 * (k / 8) + 4)
  have hb5 := hd (8 * (k / 8) + 5)
  have hb6 := hd (8 * (k / 8) + 6)
  have hb7 := hd (8 * (k / 8) + 7)
  have hlt : byteOf bs (k / 8) < 256 := by unfold byteOf; omega
  have hn : (UInt8.ofNat (byteOf bs (k / 8))).toNat = byteOf bs (k / 8) := by simp; omega
  rw [hn]
  have hk8 : k = 8 * (k / 8) + k % 8 := by omega
  have hm : k % 8 < 8 := Nat.mod_lt _ (by omega)
  conv => rhs; rw [hk8]
  unfold byteOf
  generalize k / 8 = q at *
  generalize k % 8 = m at *
  match m, hm with
  | 0, _ => simp only [Nat.pow_zero, Nat.add_zero]; omega
  | 1, _ => simp only [Nat.pow_one]; omega
  | 2, _ => show _ / 4 % 2 = _; omega
  | 3, _ => show _ / 8 % 2 = _; omega
  | 4, _ => show _ / 16 % 2 = _; omega
  | 5, _ => show _ / 32 % 2 = _; omega
  | 6, _ => show _ / 64 % 2 = _; omega
  | 7, _ => show _ / 128 % 2 = _; omega

theorem toks_le {L D : List Nat} {toks : List Tok} (h : ∀ t ∈ toks, tokOk L D t) : toks.length ≤ (toksBits L D toks).length := by
  induction toks with
  | nil => simp [toksBits]
  | cons t r ih =>
    obtain ⟨_, h2, _⟩ := h t (by simp)
    have := ih (fun x hx => h x (by simp [hx]))
    have e : 1 ≤ (tokBits L D t).length := by
      unfold tokBits codeBits
      rw [List.length_append, msb_length]
      omega
    simp only [toksBits, List.length_append, List.length_cons]
    omega

/-- The first three bits of the last block. -/
def headBits (kind : Nat) : List Nat := 1 :: lsb 2 kind

theorem infl_head {I : List UInt8} {lim : Int} {kind : Nat} {rest : List Nat} (hk : kind < 4) (hb : HasBits I 0 (headBits kind ++ rest)) :
    inflE I lim = match blkE I lim kind 3 [] with
      | .error x => .error x
      | .ok (j, o) => .ok (o, (j + 7) / 8) := by
  have h1 := hb.left
  obtain ⟨g1, g2, _⟩ := HasBits.head (x := 1) (b := lsb 2 kind) h1
  have hl := h1.1
  simp only [headBits, List.length_cons, lsb_length] at hl
  have hn := numAt_lsb g2 (show kind < 2 ^ 2 by omega)
  rw [Nat.zero_add] at hn
  unfold inflE
  simp only [blksGo]
  rw [if_neg (by omega), Nat.zero_add, Nat.zero_add, hn, g1]
  cases blkE I lim kind 3 [] with
  | error x => rfl
  | ok p => simp

/-- A stream of one fixed block. -/
def fixedBits (toks : List Tok) : List Nat := headBits 1 ++ (toksBits lits dists toks ++ codeBits lits 256)

theorem lits_ok : LensOk lits := ⟨lits_lt, by rw [lits_length]; omega, good_fit lits lits_lt (by rw [lits_length]; omega) (by decide +kernel)⟩
theorem dists_ok : LensOk dists := ⟨dists_lt, by rw [dists_length]; omega, good_fit dists dists_lt (by rw [dists_length]; omega) (by decide +kernel)⟩

theorem infl_fixed {I : List UInt8} {lim : Int} {toks : List Tok} (ht : ∀ t ∈ toks, tokOk lits dists t) (hb : HasBits I 0 (fixedBits toks)) :
    inflE I lim = match toksOut lim toks [] with
      | .error x => .error x
      | .ok o => .ok (o, ((fixedBits toks).length + 7) / 8) := by
  have hx : HasBits I 3 (toksBits lits dists toks ++ codeBits lits 256) := hb.right
  have hle := toks_le ht
  have hl := hx.1
  simp only [List.length_append] at hl
  rw [infl_head (by omega) hb]
  unfold blkE
  rw [if_neg (by omega), if_pos rfl, syms_toks lits_ok dists_ok lim (by rw [lits_length]; omega) (by decide +kernel) toks (8 * I.length + 1) 3 [] ht (by omega) hx]
  cases toksOut lim toks [] with
  | error x => rfl
  | ok o =>
    simp only [fixedBits, headBits, List.length_append, List.length_cons, lsb_length]
    congr 2

/-- A stream of one dynamic block. -/
def dynamicBits (nl nd told : Nat) (cl : List Nat) (ops : List Rop) (toks : List Tok) : List Nat :=
  headBits 2 ++ (dynBits nl nd told cl ops ++ (toksBits ((ropsOut ops []).take nl) ((ropsOut ops []).drop nl) toks ++ codeBits ((ropsOut ops []).take nl) 256))

theorem infl_dynamic {I : List UInt8} {lim : Int} {nl nd told : Nat} {cl : List Nat} {ops : List Rop} {toks : List Tok} (hnl1 : 257 ≤ nl) (hnl2 : nl ≤ 286) (hnd1 : 1 ≤ nd) (hnd2 : nd ≤ 30) (ht1 : 4 ≤ told) (ht2 : told ≤ 19)
    (h19 : cl.length = 19) (h8 : ∀ x ∈ cl, x < 8) (hz : ∀ j, told ≤ j → j < 19 → cl.getD (ordL.getD j 0) 0 = 0) (hg : goodB (mkC cl) = true)
    (ho : ropsOk cl (nl + nd) ops []) (hol : ops.length < 400) (hx16 : ∀ x ∈ ropsOut ops [], x < 16) (hlen : (ropsOut ops []).length = nl + nd) (hA : goodB (mkC ((ropsOut ops []).take nl)) = true) (h256 : (ropsOut ops []).getD 256 0 ≠ 0)
    (hD : goodB (mkC ((ropsOut ops []).drop nl)) = true ∨ (mkC ((ropsOut ops []).drop nl)).S.length = 0) (hDf : ∀ s, s < ((ropsOut ops []).drop nl).length → 0 < ((ropsOut ops []).drop nl).getD s 0 → codeOf ((ropsOut ops []).drop nl) s < 2 ^ ((ropsOut ops []).drop nl).getD s 0)
    (ht : ∀ t ∈ toks, tokOk ((ropsOut ops []).take nl) ((ropsOut ops []).drop nl) t) (hb : HasBits I 0 (dynamicBits nl nd told cl ops toks)) :
    inflE I lim = match toksOut lim toks [] with
      | .error x => .error x
      | .ok o => .ok (o, ((dynamicBits nl nd told cl ops toks).length + 7) / 8) := by
  have hx : HasBits I 3 (dynBits nl nd told cl ops ++ (toksBits ((ropsOut ops []).take nl) ((ropsOut ops []).drop nl) toks ++ codeBits ((ropsOut ops []).take nl) 256)) := hb.right
  have hlt : ((ropsOut ops []).take nl).length = nl := by rw [List.length_take]; omega
  have hld : ((ropsOut ops []).drop nl).length = nd := by rw [List.length_drop]; omega
  have hLA : LensOk ((ropsOut ops []).take nl) := ⟨fun x hx => hx16 x (List.mem_of_mem_take hx), by omega, good_fit _ (fun x hx => hx16 x (List.mem_of_mem_take hx)) (by omega) hA⟩
  have hLD : LensOk ((ropsOut ops []).drop nl) := ⟨fun x hx => hx16 x (List.mem_of_mem_drop hx), by omega, hDf⟩
  have hle := toks_le ht
  have hxr := hx.right
  have hl := hxr.1
  simp only [List.length_append] at hl
  have h256' : 0 < ((ropsOut ops []).take nl).getD 256 0 := by
    have : ((ropsOut ops []).take nl).getD 256 0 = (ropsOut ops []).getD 256 0 := by
      simp only [List.getD, List.getElem?_take]; rw [if_pos (by omega)]
    omega
  rw [infl_head (by omega) hb]
  unfold blkE
  rw [if_neg (by omega), if_neg (by omega), if_pos rfl, dyn_bits hnl1 hnl2 hnd1 hnd2 ht1 ht2 h19 h8 hz hg ho hol hA h256 hD hx.left]
  simp only
  rw [syms_toks hLA hLD lim (by omega) h256' toks (8 * I.length + 1) _ [] ht (by omega) hxr]
  cases toksOut lim toks [] with
  | error x => rfl
  | ok o =>
    simp only [dynamicBits, headBits, List.length_append, List.length_cons, lsb_length]
    congr 2
    omega

end Go.Proofs.YtdpobjgfnhjagaaDoor

namespace Go.Proofs.YtdpobjgfnhjagaaDoor

/-- n bytes, each the one that came d ahead. -/
def copyN (d : Nat) : Nat → List UInt8 → List UInt8
  | 0, out => out
  | n + 1, out => copyN d n (out ++ [out.getD (out.length - d) 0])

theorem copyN_length (d n : Nat) (out : List UInt8) : (copyN d n out).length = out.length + n := by
  induction n generalizing out with
  | zero => rfl
  | succ n ih => simp [copyN, ih]; omega

theorem repGo_ok (lim : Int) (d n : Nat) (out : List UInt8) (h : ((out.length + n : Nat) : Int) ≤ lim) : repGo lim d n out = .ok (copyN d n out) := by
  induction n generalizing out with
  | zero => rfl
  | succ n ih =>
    simp only [repGo, copyN]
    rw [if_neg (by omega), ih _ (by simp; omega)]

theorem repGo_full (lim : Int) (d n : Nat) (out : List UInt8) (h0 : (out.length : Int) ≤ lim) (h : lim < ((out.length + n : Nat) : Int)) : repGo lim d n out = .error 4 := by
  induction n generalizing out with
  | zero => omega
  | succ n ih =>
    simp only [repGo]
    by_cases hf : lim ≤ (out.length : Int)
    · rw [if_pos hf]
    · rw [if_neg hf, ih _ (by simp; omega) (by simp; omega)]

/-- What a token stands for, behind what came out. -/
def tokEx (t : Tok) (out : List UInt8) : List UInt8 := if t.s < 256 then out ++ [UInt8.ofNat t.s] else copyN (distB t.d + t.dx) (lenB t.s + t.ex) out
def toksEx : List Tok → List UInt8 → List UInt8
  | [], out => out
  | t :: r, out => toksEx r (tokEx t out)
/-- No distance is greater than what came out. -/
def distsOk : List Tok → List UInt8 → Prop
  | [], _ => True
  | t :: r, out => (256 ≤ t.s → distB t.d + t.dx ≤ out.length) ∧ distsOk r (tokEx t out)

theorem tokEx_length (t : Tok) (out : List UInt8) : (tokEx t out).length = out.length + (if t.s < 256 then 1 else lenB t.s + t.ex) := by
  unfold tokEx
  split
  · simp
  · rw [copyN_length]
theorem toksEx_le (toks : List Tok) (out : List UInt8) : out.length ≤ (toksEx toks out).length := by
  induction toks generalizing out with
  | nil => exact Nat.le_refl _
  | cons t r ih =>
    have := ih (tokEx t out)
    rw [tokEx_length] at this
    simp only [toksEx]
    omega

theorem toksOut_ok (lim : Int) (toks : List Tok) (out : List UInt8) (hd : distsOk toks out) (h : ((toksEx toks out).length : Int) ≤ lim) : toksOut lim toks out = .ok (toksEx toks out) := by
  induction toks generalizing out with
  | nil => rfl
  | cons t r ih =>
    obtain ⟨h1, h2⟩ := hd
    simp only [toksEx] at h ⊢
    have hle := toksEx_le r (tokEx t out)
    have hl := tokEx_length t out
    have ht : tokOut lim t out = .ok (tokEx t out) := by
      unfold tokOut tokEx
      by_cases c : t.s < 256
      · rw [if_pos c] at hl ⊢
        rw [if_neg (by omega), if_pos c]
      · rw [if_neg c] at hl ⊢
        rw [if_neg c]
        unfold repE
        rw [if_neg (by have := h1 (by omega); omega), repGo_ok _ _ _ _ (by omega)]
    simp only [toksOut, ht]
    exact ih _ h2 h

theorem toksOut_full (lim : Int) (toks : List Tok) (out : List UInt8) (hd : distsOk toks out) (h0 : (out.length : Int) ≤ lim) (h : lim < ((toksEx toks out).length : Int)) : toksOut lim toks out = .error 4 := by
  induction toks generalizing out with
  | nil => simp only [toksEx] at h; omega
  | cons t r ih =>
    obtain ⟨h1, h2⟩ := hd
    simp only [toksEx] at h
    have hl := tokEx_length t out
    by_cases hfit : ((tokEx t out).length : Int) ≤ lim
    · have ht : tokOut lim t out = .ok (tokEx t out) := by
        unfold tokOut tokEx
        by_cases c : t.s < 256
        · rw [if_pos c] at hl ⊢
          rw [if_neg (by omega), if_pos c]
        · rw [if_neg c] at hl ⊢
          rw [if_neg c]
          unfold repE
          rw [if_neg (by have := h1 (by omega); omega), repGo_ok _ _ _ _ (by omega)]
      simp only [toksOut, ht]
      exact ih _ h2 hfit h
    · have ht : tokOut lim t out = .error 4 := by
        unfold tokOut
        by_cases c : t.s < 256
        · rw [if_pos c] at hl ⊢
          rw [if_pos (by omega)]
        · rw [if_neg c] at hl ⊢
          unfold repE
          rw [if_neg (by have := h1 (by omega); omega), repGo_full _ _ _ _ h0 (by omega)]
      simp only [toksOut, ht]

/-- A stream of one stored block. -/
theorem stGo_ok (I : List UInt8) (lim : Int) (n p : Nat) (out : List UInt8) (h1 : p + n ≤ I.length) (h2 : ((out.length + n : Nat) : Int) ≤ lim) : stGo I lim n p out = .ok (p + n, out ++ (I.drop p).take n) := by
  induction n generalizing p out with
  | zero => simp [stGo]
  | succ n ih =>
    simp only [stGo]
    rw [if_neg (by omega), if_neg (by omega), ih (p + 1) _ (by omega) (by simp; omega)]
    have e : (I.drop p).take (n + 1) = I.getD p 0 :: (I.drop (p + 1)).take n := by
      rw [List.drop_eq_getElem_cons (by omega), List.take_succ_cons]
      simp [List.getD, show p < I.length by omega]
    rw [e, List.append_assoc]
    simp
    omega
theorem stGo_full (I : List UInt8) (lim : Int) (n p : Nat) (out : List UInt8) (h1 : p + n ≤ I.length) (h0 : (out.length : Int) ≤ lim) (h2 : lim < ((out.length + n : Nat) : Int)) : stGo I lim n p out = .error 4 := by
  induction n generalizing p out with
  | zero => omega
  | succ n ih =>
    simp only [stGo]
    rw [if_neg (by omega)]
    by_cases hf : lim ≤ (out.length : Int)
    · rw [if_pos hf]
    · rw [if_neg hf, ih (p + 1) _ (by omega) (by simp; omega) (by simp; omega)]

theorem xor_len16 (n : Nat) (h : n < 65536) : n ^^^ (65535 - n) = 65535 := by
  apply Nat.eq_of_testBit_eq
  intro i
  rw [Nat.testBit_xor, show 65535 - n = 2 ^ 16 - (n + 1) by omega, Nat.testBit_two_pow_sub_succ (by omega), show (65535 : Nat) = 2 ^ 16 - 1 from rfl, Nat.testBit_two_pow_sub_one]
  by_cases hi : i < 16
  · simp [hi]
  · have : n.testBit i = false := Nat.testBit_lt_two_pow (Nat.lt_of_lt_of_le h (Nat.pow_le_pow_right (n := 2) (by omega) (show 16 ≤ i by omega)))
    simp [hi, this]

theorem infl_stored (x rest : List UInt8) (lim : Int) (hx : x.length < 65536) (h0 : 0 ≤ lim) :
    inflE (headOf true x.length ++ (x ++ rest)) lim = if (x.length : Int) ≤ lim then .ok (x, x.length + 5) else .error 4 := by
  have hlen : (headOf true x.length ++ (x ++ rest)).length = 5 + x.length + rest.length := by simp [head_length]; omega
  have g : ∀ i, i < 5 → (headOf true x.length ++ (x ++ rest)).getD i 0 = (headOf true x.length).getD i 0 := fun i hi => getD_app_left _ _ _ (by rw [head_length]; exact hi)
  have hb : HasBits (headOf true x.length ++ (x ++ rest)) 0 (headBits 0 ++ []) := by
    refine ⟨by rw [hlen]; simp [headBits, lsb]; omega, fun k hk => ?_⟩
    simp [headBits, lsb] at hk
    unfold bitAt
    rw [Nat.zero_add, show k / 8 = 0 by omega, g 0 (by omega)]
    match k, hk with
    | 0, _ => simp [headOf, headBits]
    | 1, _ => simp [headOf, headBits, lsb]
    | 2, _ => simp [headOf, headBits, lsb]
  rw [infl_head (by omega) hb]
  unfold blkE
  rw [if_pos rfl]
  have e1 : two (headOf true x.length ++ (x ++ rest)) 1 = x.length := by
    unfold two
    rw [g 1 (by omega), g 2 (by omega)]
    simp [headOf]
    omega
  have e2 : two (headOf true x.length ++ (x ++ rest)) 3 = 65535 - x.length := by
    unfold two
    rw [g 3 (by omega), g 4 (by omega)]
    simp [headOf]
    omega
  have hst : stE (headOf true x.length ++ (x ++ rest)) lim ((3 + 7) / 8) [] = if (x.length : Int) ≤ lim then .ok (5 + x.length, x) else .error 4 := by
    unfold stE
    rw [show (3 + 7) / 8 = 1 from rfl, if_neg (by rw [hlen]; omega), show 1 + 2 = 3 from rfl, e1, e2, xor_len16 _ hx, if_neg (by simp)]
    by_cases hl : (x.length : Int) ≤ lim
    · rw [if_pos hl, stGo_ok _ _ _ _ _ (by rw [hlen]; omega) (by simpa using hl)]
      have ed : ((headOf true x.length ++ (x ++ rest)).drop 5).take x.length = x := by
        rw [List.drop_append_of_le_length (by rw [head_length]; omega), List.drop_of_length_le (by rw [head_length]; omega)]
        simp
      rw [show 1 + 4 = 5 from rfl, ed]
      simp
    · rw [if_neg hl, stGo_full _ _ _ _ _ (by rw [hlen]; omega) (by simpa using h0) (by simp; omega)]
  rw [hst]
  by_cases hl : (x.length : Int) ≤ lim
  · rw [if_pos hl, if_pos hl]
    simp only
    congr 2
    omega
  · rw [if_neg hl, if_neg hl]

/-- A match that was looked at byte by byte stands for what lies there. -/
theorem copy_take (b : List UInt8) (d n p : Nat) (hd : 1 ≤ d) (hp : d ≤ p) (hn : p + n ≤ b.length) (h : ∀ k, k < n → b.getD (p + k) 0 = b.getD (p + k - d) 0) : copyN d n (b.take p) = b.take (p + n) := by
  induction n generalizing p with
  | zero => rfl
  | succ n ih =>
    have hl : (b.take p).length = p := by rw [List.length_take]; omega
    have h0 := h 0 (by omega)
    rw [Nat.add_zero] at h0
    have e1 : (b.take p).getD ((b.take p).length - d) 0 = b.getD p 0 := by
      rw [hl, h0]
      simp only [List.getD, List.getElem?_take]
      rw [if_pos (by omega)]
    have e2 : b.take p ++ [b.getD p 0] = b.take (p + 1) := by
      rw [List.take_succ_eq_append_getElem (by omega)]
      simp [List.getD, show p < b.length by omega]
    simp only [copyN]
    rw [e1, e2, ih (p + 1) (by omega) (by omega) (fun k hk => by
      have := h (k + 1) (by omega)
      rw [show p + 1 + k = p + (k + 1) by omega]
      exact this), show p + 1 + n = p + (n + 1) by omega]

/-- A byte that is written as itself. -/
theorem lit_take (b : List UInt8) (p : Nat) (hp : p < b.length) : tokEx ⟨(b.getD p 0).toNat, 0, 0, 0⟩ (b.take p) = b.take (p + 1) := by
  unfold tokEx
  rw [if_pos (by have := (b.getD p 0).toNat_lt; exact this), List.take_succ_eq_append_getElem hp]
  simp [List.getD, hp]

end Go.Proofs.YtdpobjgfnhjagaaDoor

namespace Go.Proofs.YtdpobjgfnhjagaaDoor

/-- A node of the heap: a weight, a number. -/
abbrev Nd := Nat × Nat
def ndLt (a b : Nd) : Bool := if a.1 = b.1 then decide (a.2 < b.2) else decide (a.1 < b.1)
abbrev nd (l : List Nd) (i : Nat) : Nd := l.getD i (0, 0)

theorem ndLt_iff (a b : Nd) : ndLt a b = true ↔ (a.1 < b.1 ∨ (a.1 = b.1 ∧ a.2 < b.2)) := by
  unfold ndLt
  split
  · simp; omega
  · simp; omega
theorem ndLt_not (a b : Nd) : ndLt a b = false ↔ ¬ (a.1 < b.1 ∨ (a.1 = b.1 ∧ a.2 < b.2)) := by
  rw [← ndLt_iff, Bool.not_eq_true]

/-- Two nodes change places. -/
def swp (l : List Nd) (i j : Nat) : List Nd := (l.set i (nd l j)).set j (nd l i)
theorem swp_length (l : List Nd) (i j : Nat) : (swp l i j).length = l.length := by simp [swp]

theorem nd_set (l : List Nd) (i k : Nat) (v : Nd) (hi : i < l.length) : nd (l.set i v) k = if k = i then v else nd l k := by
  simp only [nd, List.getD, List.getElem?_set]
  by_cases h : k = i
  · subst h; simp [hi]
  · rw [if_neg (fun e => h e.symm), if_neg h]

theorem nd_swp (l : List Nd) (i j k : Nat) (hi : i < l.length) (hj : j < l.length) : nd (swp l i j) k = if k = j then nd l i else if k = i then nd l j else nd l k := by
  unfold swp
  rw [nd_set _ _ _ _ (by simpa using hj), nd_set _ _ _ _ hi]

theorem count_setN (l : List Nd) (i : Nat) (v x : Nd) (hi : i < l.length) : (l.set i v).count x + (if nd l i = x then 1 else 0) = l.count x + (if v = x then 1 else 0) := by
  induction l generalizing i with
  | nil => simp at hi
  | cons a r ih =>
    cases i with
    | zero =>
      have e : nd (a :: r) 0 = a := rfl
      rw [e, List.set_cons_zero, List.count_cons, List.count_cons]
      by_cases h1 : a = x <;> by_cases h2 : v = x <;> simp [h1, h2]
    | succ i =>
      have := ih i (by simpa using hi)
      have e : nd (a :: r) (i + 1) = nd r i := rfl
      rw [e, List.set_cons_succ, List.count_cons, List.count_cons]
      omega

theorem swp_perm (l : List Nd) (i j : Nat) (hi : i < l.length) (hj : j < l.length) : (swp l i j).Perm l := by
  rw [List.perm_iff_count]
  intro x
  unfold swp
  have h1 := count_setN (l.set i (nd l j)) j (nd l i) x (by simpa using hj)
  have h2 := count_setN l i (nd l j) x hi
  rw [nd_set l i j _ hi] at h1
  by_cases e : j = i
  · subst e; simp only [if_true] at h1; omega
  · rw [if_neg e] at h1; omega

def riseGo : Nat → Nat → List Nd → List Nd
  | 0, _, l => l
  | f + 1, i, l => if i = 0 then l else if ndLt (nd l i) (nd l ((i - 1) / 2)) then riseGo f ((i - 1) / 2) (swp l i ((i - 1) / 2)) else l

/-- No node is before the one above it. -/
def HpOk (l : List Nd) : Prop := ∀ j, 0 < j → j < l.length → ndLt (nd l j) (nd l ((j - 1) / 2)) = false

theorem rise_spec (f i : Nat) (l : List Nd) (hf : i < f) (hi : i < l.length) (h1 : ∀ j, 0 < j → j < l.length → j ≠ i → ndLt (nd l j) (nd l ((j - 1) / 2)) = false)
    (h2 : ∀ j, 0 < j → j < l.length → (j - 1) / 2 = i → 0 < i → ndLt (nd l j) (nd l ((i - 1) / 2)) = false) : HpOk (riseGo f i l) ∧ (riseGo f i l).Perm l := by
  induction f generalizing i l with
  | zero => omega
  | succ f ih =>
    simp only [riseGo]
    by_cases h0 : i = 0
    · rw [if_pos h0]
      exact ⟨fun j hj hl => h1 j hj hl (by omega), List.Perm.refl _⟩
    rw [if_neg h0]
    cases hlt : ndLt (nd l i) (nd l ((i - 1) / 2)) with
    | false =>
      rw [if_neg (by simp)]
      refine ⟨fun j hj hl => ?_, List.Perm.refl _⟩
      by_cases e : j = i
      · subst e; exact hlt
      · exact h1 j hj hl e
    | true =>
      rw [if_pos rfl]
      obtain ⟨p, hp⟩ : ∃ p, (i - 1) / 2 = p := ⟨_, rfl⟩
      rw [hp] at hlt h2 ⊢
      have hpi : p < i := by omega
      have hsw := fun k => nd_swp l i p k hi (by omega)
      have hlt' := (ndLt_iff _ _).1 hlt
      have hr := ih p (swp l i p) (by omega) (by rw [swp_length]; omega) ?_ ?_
      · exact ⟨hr.1, hr.2.trans (swp_perm l i p hi (by omega))⟩
      · intro j hj hl hjp
        rw [swp_length] at hl
        rw [hsw, hsw, if_neg hjp]
        by_cases e1 : j = i
        · subst e1
          rw [if_pos rfl, hp, if_pos rfl]
          rw [ndLt_not]
          omega
        · rw [if_neg e1]
          by_cases e2 : (j - 1) / 2 = p
          · rw [if_pos e2]
            have h3 := (ndLt_not _ _).1 (h1 j hj hl e1)
            rw [e2] at h3
            rw [ndLt_not]
            omega
          · rw [if_neg e2]
            by_cases e3 : (j - 1) / 2 = i
            · rw [if_pos e3]; exact h2 j hj hl e3 (by omega)
            · rw [if_neg e3]; exact h1 j hj hl e1
      · intro j hj hl hjp hp0
        rw [swp_length] at hl
        rw [hsw, hsw, if_neg (by omega), if_neg (show ¬ (p - 1) / 2 = p by omega), if_neg (show ¬ (p - 1) / 2 = i by omega)]
        have h3 := (ndLt_not _ _).1 (h1 p hp0 (by omega) (by omega))
        by_cases e1 : j = i
        · rw [if_pos e1, ndLt_not]; exact h3
        · rw [if_neg e1]
          have h4 := (ndLt_not _ _).1 (h1 j hj hl e1)
          rw [hjp] at h4
          rw [ndLt_not]
          omega

/-- The list with one more, at its place. -/
def pushL (l : List Nd) (a : Nd) : List Nd := riseGo (l.length + 1) l.length (l ++ [a])

theorem nd_append (l : List Nd) (a : Nd) (k : Nat) (h : k < l.length) : nd (l ++ [a]) k = nd l k := by
  simp only [nd, List.getD, List.getElem?_append_left h]

theorem push_spec (l : List Nd) (a : Nd) (h : HpOk l) : HpOk (pushL l a) ∧ (pushL l a).Perm (a :: l) := by
  have hr := rise_spec (l.length + 1) l.length (l ++ [a]) (by omega) (by simp) ?_ ?_
  · exact ⟨hr.1, hr.2.trans (List.perm_append_comm (l₁ := l) (l₂ := [a]))⟩
  · intro j hj hl hne
    simp at hl
    rw [nd_append _ _ _ (by omega), nd_append _ _ _ (by omega)]
    exact h j hj (by omega)
  · intro j hj hl he h0
    simp at hl
    omega

/-- The least of a node and the first k of those below it. -/
def lst (l : List Nd) (i : Nat) : Nat → Nat
  | 0 => i
  | k + 1 => if 2 * i + 1 + k < l.length ∧ ndLt (nd l (2 * i + 1 + k)) (nd l (lst l i k)) = true then 2 * i + 1 + k else lst l i k

theorem lst_lt (l : List Nd) (i k : Nat) (h : i < l.length) : lst l i k < l.length := by
  induction k with
  | zero => exact h
  | succ k ih =>
    simp only [lst]
    split
    · rename_i h; exact h.1
    · exact ih
theorem lst_end (l : List Nd) (i k : Nat) (h : l.length ≤ 2 * i + 1 + k) (m : Nat) : lst l i (k + m) = lst l i k := by
  induction m with
  | zero => rfl
  | succ m ih =>
    rw [← Nat.add_assoc, lst, if_neg (by omega), ih]
theorem lst_ge (l : List Nd) (i k : Nat) : lst l i k = i ∨ (2 * i + 1 ≤ lst l i k ∧ lst l i k < 2 * i + 1 + k ∧ lst l i k < l.length) := by
  induction k with
  | zero => exact Or.inl rfl
  | succ k ih =>
    simp only [lst]
    split
    · rename_i h; exact Or.inr ⟨by omega, by omega, h.1⟩
    · omega
theorem lst_least (l : List Nd) (i k : Nat) : ndLt (nd l i) (nd l (lst l i k)) = false ∧ ∀ m, m < k → 2 * i + 1 + m < l.length → ndLt (nd l (2 * i + 1 + m)) (nd l (lst l i k)) = false := by
  induction k with
  | zero => exact ⟨by rw [ndLt_not]; simp [lst], fun m hm => by omega⟩
  | succ k ih =>
    obtain ⟨h1, h2⟩ := ih
    simp only [lst]
    split
    · rename_i h
      have h3 := (ndLt_iff _ _).1 h.2
      refine ⟨?_, fun m hm hl => ?_⟩
      · rw [ndLt_not] at h1 ⊢; omega
      · by_cases e : m = k
        · subst e; rw [ndLt_not]; omega
        · have h4 := h2 m (by omega) hl
          rw [ndLt_not] at h4 ⊢; omega
    · rename_i h
      refine ⟨h1, fun m hm hl => ?_⟩
      by_cases e : m = k
      · subst e
        cases hc : ndLt (nd l (2 * i + 1 + m)) (nd l (lst l i m)) with
        | false => rfl
        | true => exact absurd ⟨hl, hc⟩ h
      · exact h2 m (by omega) hl

def sinkGo : Nat → Nat → List Nd → List Nd
  | 0, _, l => l
  | f + 1, i, l => if lst l i 2 = i then l else sinkGo f (lst l i 2) (swp l i (lst l i 2))

theorem sink_spec (f i : Nat) (l : List Nd) (hf : l.length < i + f) (h1 : ∀ j, 0 < j → j < l.length → (j - 1) / 2 ≠ i → ndLt (nd l j) (nd l ((j - 1) / 2)) = false)
    (h2 : ∀ j, 0 < j → j < l.length → (j - 1) / 2 = i → 0 < i → ndLt (nd l j) (nd l ((i - 1) / 2)) = false) : HpOk (sinkGo f i l) ∧ (sinkGo f i l).Perm l := by
  induction f generalizing i l with
  | zero =>
    show HpOk l ∧ l.Perm l
    exact ⟨fun j hj hl => h1 j hj hl (by omega), List.Perm.refl _⟩
  | succ f ih =>
    simp only [sinkGo]
    obtain ⟨l1, l2⟩ := lst_least l i 2
    have hch : ∀ j, 0 < j → j < l.length → (j - 1) / 2 = i → ndLt (nd l j) (nd l (lst l i 2)) = false := by
      intro j hj hl hp
      have := l2 (j - (2 * i + 1)) (by omega) (by omega)
      rw [show 2 * i + 1 + (j - (2 * i + 1)) = j by omega] at this
      exact this
    by_cases he : lst l i 2 = i
    · rw [if_pos he]
      rw [he] at hch
      refine ⟨fun j hj hl => ?_, List.Perm.refl _⟩
      by_cases e : (j - 1) / 2 = i
      · rw [e]; exact hch j hj hl e
      · exact h1 j hj hl e
    · rw [if_neg he]
      obtain ⟨g1, g2, g3⟩ := (lst_ge l i 2).resolve_left he
      generalize lst l i 2 = c at *
      have hpc : (c - 1) / 2 = i := by omega
      have hsw := fun k => nd_swp l i c k (by omega) g3
      have hr := ih c (swp l i c) (by rw [swp_length]; omega) ?_ ?_
      · exact ⟨hr.1, hr.2.trans (swp_perm l i c (by omega) g3)⟩
      · intro j hj hl hjc
        rw [swp_length] at hl
        rw [hsw, hsw, if_neg hjc]
        by_cases e1 : j = c
        · rw [if_pos e1, e1, hpc, if_pos rfl]
          exact l1
        · rw [if_neg e1]
          by_cases e2 : j = i
          · rw [if_pos e2, if_neg (by omega)]
            have := h2 c (by omega) g3 hpc (by omega)
            rw [e2]; exact this
          · rw [if_neg e2]
            by_cases e3 : (j - 1) / 2 = i
            · rw [if_pos e3]; exact hch j hj hl e3
            · rw [if_neg e3]; exact h1 j hj hl e3
      · intro j hj hl hjc hc0
        rw [swp_length] at hl
        rw [hsw, hsw, hpc, if_neg (by omega), if_neg (by omega), if_neg (by omega), if_pos rfl]
        have := h1 j hj hl (by omega)
        rw [hjc] at this
        exact this

/-- The rest of the list behind its first one. -/
def popL (l : List Nd) : List Nd := sinkGo (l.length - 1 + 1) 0 ((l.set 0 (nd l (l.length - 1))).take (l.length - 1))

theorem hp_least (l : List Nd) (h : HpOk l) (i : Nat) (hi : i < l.length) : ndLt (nd l i) (nd l 0) = false := by
  induction i using Nat.strongRecOn with
  | ind i ih =>
    by_cases h0 : i = 0
    · subst h0; rw [ndLt_not]; omega
    · have h1 := (ndLt_not _ _).1 (h i (by omega) hi)
      have h2 := (ndLt_not _ _).1 (ih ((i - 1) / 2) (by omega) (by omega))
      rw [ndLt_not]; omega

theorem nd_take (l : List Nd) (n k : Nat) (h : k < n) : nd (l.take n) k = nd l k := by
  simp only [nd, List.getD, List.getElem?_take, if_pos h]

theorem pop_length (l : List Nd) (h0 : l ≠ []) (h : HpOk l) : (popL l).length + 1 = l.length ∧ HpOk (popL l) ∧ l.Perm (nd l 0 :: popL l) ∧ ∀ y ∈ popL l, ndLt y (nd l 0) = false := by
  have hpos : 0 < l.length := List.length_pos_iff.2 h0
  obtain ⟨m, hm⟩ : ∃ m, l.length = m + 1 := ⟨l.length - 1, by omega⟩
  have hlen : ((l.set 0 (nd l m)).take m).length = m := by simp; omega
  have hs := sink_spec (m + 1) 0 ((l.set 0 (nd l m)).take m) (by omega) ?_ (fun j _ _ _ h => by omega)
  · have hdef : popL l = sinkGo (m + 1) 0 ((l.set 0 (nd l m)).take m) := by
      unfold popL; rw [hm]; rfl
    rw [hdef]
    have hperm : l.Perm (nd l 0 :: (l.set 0 (nd l m)).take m) := by
      cases l with
      | nil => exact absurd rfl h0
      | cons a r =>
        have hr : r.length = m := by simpa using hm
        simp only [List.set_cons_zero]
        refine List.Perm.cons a ?_
        cases m with
        | zero => simp [List.length_eq_zero_iff.1 hr]
        | succ m =>
          rw [List.take_succ_cons]
          have e1 : nd (a :: r) (m + 1) = r[m] := by simp [nd, List.getD, show m < r.length by omega]
          have e2 : r = r.take m ++ [r[m]] := by
            conv => lhs; rw [← List.take_length (l := r), hr]
            exact List.take_succ_eq_append_getElem (by omega)
          rw [e1]
          conv => lhs; rw [e2]
          exact List.perm_append_comm
    have hp2 := hperm.trans (hs.2.symm.cons (nd l 0))
    refine ⟨by rw [hs.2.length_eq, hlen, hm], hs.1, hp2, fun y hy => ?_⟩
    have hmem : y ∈ l := hp2.symm.subset (List.mem_cons_of_mem _ hy)
    obtain ⟨i, hi, rfl⟩ := List.getElem_of_mem hmem
    have := hp_least l h i hi
    rw [show nd l i = l[i] by simp [nd, List.getD, hi]] at this
    exact this
  · intro j hj hl hp
    rw [hlen] at hl
    rw [nd_take _ _ _ hl, nd_take _ _ _ (by omega), nd_set _ _ _ _ hpos, nd_set _ _ _ _ hpos, if_neg (by omega), if_neg (by omega)]
    exact h j hj (by omega)

end Go.Proofs.YtdpobjgfnhjagaaDoor

namespace Go.Proofs.YtdpobjgfnhjagaaDoor
open Go.RowKit

abbrev ndV (a : Nd) : Value := .agg #[.int .i64 (a.1 : Int), .int .i64 (a.2 : Int)]

/-- Nothing that was there is written. -/
abbrev Non : Nat → Prop := fun _ => False

theorem lt_of_cell {w : World} {b k : Nat} {v : Value} (h : w.cell? ⟨b, k, none⟩ = some v) : b < w.heap.size := by
  by_cases hb : b < w.heap.size
  · exact hb
  · simp [World.cell?, Array.getElem?_eq_none (Nat.not_lt.1 hb)] at h

set_option maxHeartbeats 400000 in
theorem before_any (a1 a2 b1 b2 : Nat) (w : World) :
    Calls Tryd.prog 95 #[.agg #[.int .i64 (a1 : Int), .int .i64 (a2 : Int)], .agg #[.int .i64 (b1 : Int), .int .i64 (b2 : Int)]] w fun e w' => e = .returned (.bool (ndLt (a1, a2) (b1, b2))) ∧ Fr Non w w' := by
  by_cases h : a1 = b1
  · subst h
    go_enter Tryd.func95, Tryd.ntmps95
    go_wp2_with fail
    go_ret
    exact ⟨by simp [ndLt], ((Fr.refl _ _).alloc _).alloc _⟩
  · have hn : ((a1 : Int) == (b1 : Int)) = false := by simp; omega
    go_enter Tryd.func95, Tryd.ntmps95
    go_wp2_with fail
    go_ret
    exact ⟨by simp [ndLt, h], ((Fr.refl _ _).alloc _).alloc _⟩

/-- The nodes' cells. -/
def ndC (l : List Nd) : List Value := l.flatMap fun a => [.int .i64 (a.1 : Int), .int .i64 (a.2 : Int)]

theorem ndC_length (l : List Nd) : (ndC l).length = l.length * 2 := by
  induction l with
  | nil => rfl
  | cons a r ih => simp only [ndC, List.flatMap_cons, List.length_append, List.length_cons, List.length_nil] at ih ⊢; omega

theorem ndC_get (l : List Nd) (i : Nat) (h : i < l.length) : (ndC l)[i * 2]? = some (.int .i64 ((nd l i).1 : Int)) ∧ (ndC l)[i * 2 + 1]? = some (.int .i64 ((nd l i).2 : Int)) := by
  induction l generalizing i with
  | nil => simp at h
  | cons a r ih =>
    cases i with
    | zero => simp [ndC, nd]
    | succ i =>
      have := ih i (by simpa using h)
      have e : ∀ k, (ndC (a :: r))[2 + k]? = (ndC r)[k]? := fun k => by
        simp only [ndC, List.flatMap_cons]
        rw [List.getElem?_append_right (by simp)]
        simp
      rw [show (i + 1) * 2 = 2 + i * 2 by omega, show 2 + i * 2 + 1 = 2 + (i * 2 + 1) by omega, e, e]
      simpa [nd] using this

theorem ndC_set (l : List Nd) (i : Nat) (a : Nd) (h : i < l.length) : ((ndC l).set (i * 2) (.int .i64 (a.1 : Int))).set (i * 2 + 1) (.int .i64 (a.2 : Int)) = ndC (l.set i a) := by
  induction l generalizing i with
  | nil => simp at h
  | cons b r ih =>
    cases i with
    | zero => simp [ndC]
    | succ i =>
      have := ih i (by simpa using h)
      rw [List.set_cons_succ]
      simp only [ndC, List.flatMap_cons] at this ⊢
      rw [← this, show (i + 1) * 2 = i * 2 + 1 + 1 by omega]
      simp

theorem ndC_append (a b : List Nd) : ndC (a ++ b) = ndC a ++ ndC b := by simp [ndC]

/-- The heap's nodes lie in block g. -/
def NdAt (w : World) (g cap : Nat) (l : List Nd) : Prop :=
  ∃ cur : Array Value, w.heap[g]? = some (.cells cur 129 (0, 0)) ∧ cur.size = cap * 2 ∧ l.length ≤ cap ∧ cap ≤ maxLen ∧ cur.toList.take (l.length * 2) = ndC l

theorem NdAt.lt {w : World} {g cap : Nat} {l : List Nd} (h : NdAt w g cap l) : g < w.heap.size := by
  obtain ⟨cur, h1, _⟩ := h
  exact lt_of_heap h1
theorem NdAt.free {w : World} {g cap : Nat} {l : List Nd} (h : NdAt w g cap l) (i : Nat) : w.frozen? ⟨g, i, none⟩ = false := by
  obtain ⟨cur, h1, _⟩ := h
  exact free_of_heap h1 i
theorem NdAt.cells {w : World} {g cap : Nat} {l : List Nd} (h : NdAt w g cap l) (i : Nat) (hi : i < l.length) :
    w.cell? ⟨g, i * 2, none⟩ = some (.int .i64 ((nd l i).1 : Int)) ∧ w.cell? ⟨g, i * 2 + 1, none⟩ = some (.int .i64 ((nd l i).2 : Int)) := by
  obtain ⟨cur, h1, h2, h3, _, h4⟩ := h
  have key : ∀ k, k < l.length * 2 → cur[k]? = (ndC l)[k]? := fun k hk => by
    rw [← h4, List.getElem?_take, if_pos hk, Array.getElem?_toList]
  have hg := ndC_get l i hi
  rw [cell_of_heap h1, cell_of_heap h1, key _ (by omega), key _ (by omega)]
  exact hg
theorem NdAt.keep {w w' : World} {g cap : Nat} {l : List Nd} (h : NdAt w g cap l) (hb : w'.heap[g]? = w.heap[g]?) : NdAt w' g cap l := by
  obtain ⟨cur, h1, h2⟩ := h
  exact ⟨cur, hb.trans h1, h2⟩
theorem NdAt.fr {S : Nat → Prop} {w w' : World} {g cap : Nat} {l : List Nd} (h : NdAt w g cap l) (f : Fr S w w') (hs : ¬ S g) : NdAt w' g cap l := h.keep (f.block g h.lt hs)
theorem NdAt.set {w : World} {g cap : Nat} {l : List Nd} (h : NdAt w g cap l) (i : Nat) (a : Nd) (hi : i < l.length) :
    NdAt ((w.setCell ⟨g, i * 2, none⟩ (.int .i64 (a.1 : Int))).setCell ⟨g, i * 2 + 1, none⟩ (.int .i64 (a.2 : Int))) g cap (l.set i a) := by
  obtain ⟨cur, h1, h2, h3, h5, h4⟩ := h
  refine ⟨_, heap_set (heap_set h1 _ _) _ _, by simpa using h2, by simpa using h3, h5, ?_⟩
  rw [List.length_set, ← ndC_set l i a hi, ← h4]
  simp only [Array.toList_setIfInBounds, List.take_set]


set_option maxHeartbeats 1000000 in
theorem rise_any (g i n cap : Nat) (l R : List Nd) (w : World) (h : NdAt w g cap l) (hn : l.length = n) (hi : i < n) (hn2 : n ≤ 1000) (hR : riseGo (i + 1) i l = R) :
    Calls Tryd.prog 93 #[.slice (some ⟨g, 0, none⟩) n cap, .int .i64 i] w fun e w' => e = .returned (.tuple #[]) ∧ NdAt w' g cap R ∧ Fr (One g) w w' := by
  have HR0 : Hid (riseGo (i + 1) i l = R) := hR; clear hR
  have HN : Hid (l.length = n) := hn; clear hn
  go_enter Tryd.func93, Tryd.ntmps93
  go_wp2_with fail
  go_loopw [1] (fun iv wr => ∃ (j f : Nat) (l2 : List Nd), iv = .int .i64 j ∧ j < n ∧ j < f ∧ Hid (l2.length = n) ∧ NdAt wr g cap l2 ∧ Hid (riseGo f j l2 = R) ∧ Fr (One g) w wr) (fun iv _ => (intOf iv).toNat)
  case atStart => exact ⟨i, i + 1, l, rfl, hi, by omega, HN, h, HR0, Fr.refl _ _⟩
  case round =>
    obtain ⟨j, f, l2, rfl, hj, hjf, HN2, h2, HR, hfr⟩ := hrel
    cases f with
    | zero => omega
    | succ f =>
    by_cases h0 : j = 0
    · subst h0
      go_wp2_with fail
      go_end0
      have hr := HR.out
      simp only [riseGo, if_true] at hr
      rw [← hr]
      exact ⟨rfl, h2, hfr⟩
    · obtain ⟨k, hk⟩ : ∃ k, (j - 1) / 2 = k := ⟨_, rfl⟩
      have hki : ((j : Int) - 1) / 2 = (k : Int) := by omega
      have hkn : k < n := by omega
      have hkj : k < j := by omega
      have hii : (j : Int) < (n : Int) := by omega
      have hki2 : (k : Int) < (n : Int) := by omega
      have hl2 := HN2.out
      obtain ⟨a0, a1⟩ := h2.cells j (by omega)
      obtain ⟨b0, b1⟩ := h2.cells k (by omega)
      have fz := h2.free
      have hgl := h2.lt
      have hr := HR.out
      simp only [riseGo, if_neg h0, hk] at hr
      have hsw : swp l2 j k = (l2.set j (nd l2 k)).set k (nd l2 j) := rfl
      rw [hsw] at hr
      have hsl : ((l2.set j (nd l2 k)).set k (nd l2 j)).length = n := by simpa using hl2
      generalize nd l2 j = x at a0 a1 hr hsl
      generalize nd l2 k = y at b0 b1 hr hsl
      obtain ⟨x1, x2⟩ := x
      obtain ⟨y1, y2⟩ := y
      simp only at a0 a1 b0 b1
      have HR1 : Hid _ := hr; clear hr HR
      have HL : Hid _ := hsl; clear hsl
      clear hl2 hsw hk
      have hb : Calls Tryd.prog 95 #[.agg #[.int .i64 (x1 : Int), .int .i64 (x2 : Int)], .agg #[.int .i64 (y1 : Int), .int .i64 (y2 : Int)]] wr.drew fun e w' => e = .returned (.bool (ndLt (x1, x2) (y1, y2))) ∧ Fr Non wr w' ∧ w'.cell? ⟨g, j * 2, none⟩ = some (.int .i64 (x1 : Int)) ∧ w'.cell? ⟨g, j * 2 + 1, none⟩ = some (.int .i64 (x2 : Int)) ∧ w'.cell? ⟨g, k * 2, none⟩ = some (.int .i64 (y1 : Int)) ∧ w'.cell? ⟨g, k * 2 + 1, none⟩ = some (.int .i64 (y2 : Int)) ∧ (∀ i, w'.frozen? ⟨g, i, none⟩ = false) ∧ NdAt w' g cap l2 := by
        refine (before_any x1 x2 y1 y2 wr.drew).mono ?_
        rintro e w' ⟨rfl, f1⟩
        have f1' : Fr Non wr w' := ((Fr.refl _ _).drew).trans f1
        have h3 := h2.fr f1' (fun e => e)
        refine ⟨rfl, f1', ?_, ?_, ?_, ?_, h3.free, h3⟩
        · exact (f1'.cell (p := ⟨g, j * 2, none⟩) hgl (fun e => e)).trans a0
        · exact (f1'.cell (p := ⟨g, j * 2 + 1, none⟩) hgl (fun e => e)).trans a1
        · exact (f1'.cell (p := ⟨g, k * 2, none⟩) hgl (fun e => e)).trans b0
        · exact (f1'.cell (p := ⟨g, k * 2 + 1, none⟩) hgl (fun e => e)).trans b1
      have HB : Hid _ := hb; clear hb
      go_wp2_with fail
      go_region_with (go_at_call 95; refine Calls.mono HB.out ?_; rintro e w1 ⟨rfl, f1, d0, d1, e0, e1, fz1, h3⟩)
      all_goals
        have hg1 := h3.lt
        cases hlt : ndLt (x1, x2) (y1, y2)
        · have hr := HR1.out
          rw [hlt] at hr
          have HR2 : Hid _ := hr; clear hr HR1
          go_wp2_with fail
          (try simp only [Exit.inBlock, Exit.then])
          refine bodyPost_ret (results_none rfl _ _ _) rfl ?_
          have hr := HR2.out
          simp only [Bool.false_eq_true, if_false] at hr
          rw [← hr]
          exact ⟨rfl, h3, hfr.trans (f1.mono fun _ _ e => e.elim)⟩
        · have hr := HR1.out
          rw [hlt] at hr
          have HR2 : Hid _ := hr; clear hr HR1
          go_wp2_with fail
          go_region
          go_wp2_with fail
          go_roundw
          case rel =>
            have hr := HR2.out
            rw [if_pos trivial] at hr
            refine ⟨k, f, _, rfl, hkn, by omega, HL, ?_, hr, ?_⟩
            · exact (h3.set j (y1, y2) (by have := HN2.out; omega)).set k (x1, x2) (by have := HN2.out; simp; omega)
            · exact (((((hfr.trans (f1.mono fun _ _ e => e.elim)).setCell (p := ⟨g, j * 2, none⟩) rfl _).setCell (p := ⟨g, j * 2 + 1, none⟩) rfl _).setCell (p := ⟨g, k * 2, none⟩) rfl _).setCell (p := ⟨g, k * 2 + 1, none⟩) rfl _).drew
          case measure => simp [intOf]; omega
end Go.Proofs.YtdpobjgfnhjagaaDoor

namespace Go.Proofs.YtdpobjgfnhjagaaDoor
open Go.RowKit

theorem before_at {g cap x y : Nat} {l : List Nd} {wr : World} (h : NdAt wr g cap l) (x1 x2 y1 y2 : Nat) (hx : x < l.length) (hy : y < l.length) (ex : nd l x = (x1, x2)) (ey : nd l y = (y1, y2)) :
    Calls Tryd.prog 95 #[.agg #[.int .i64 (x1 : Int), .int .i64 (x2 : Int)], .agg #[.int .i64 (y1 : Int), .int .i64 (y2 : Int)]] wr.drew fun e w' => e = .returned (.bool (ndLt (x1, x2) (y1, y2))) ∧ Fr Non wr w' ∧ w'.cell? ⟨g, x * 2, none⟩ = some (.int .i64 (x1 : Int)) ∧ w'.cell? ⟨g, x * 2 + 1, none⟩ = some (.int .i64 (x2 : Int)) ∧ w'.cell? ⟨g, y * 2, none⟩ = some (.int .i64 (y1 : Int)) ∧ w'.cell? ⟨g, y * 2 + 1, none⟩ = some (.int .i64 (y2 : Int)) ∧ (∀ i, w'.frozen? ⟨g, i, none⟩ = false) ∧ NdAt w' g cap l := by
  refine (before_any x1 x2 y1 y2 wr.drew).mono ?_
  rintro e w' ⟨rfl, f1⟩
  have f1' : Fr Non wr w' := ((Fr.refl _ _).drew).trans f1
  have h3 := h.fr f1' (fun e => e)
  have c1 := h3.cells x hx
  have c2 := h3.cells y hy
  rw [ex] at c1
  rw [ey] at c2
  exact ⟨rfl, f1', c1.1, c1.2, c2.1, c2.2, h3.free, h3⟩

set_option maxHeartbeats 2000000 in
theorem sink_any (g i n cap : Nat) (l R : List Nd) (w : World) (h : NdAt w g cap l) (hn : l.length = n) (hi : i ≤ n) (hn2 : n ≤ 1000) (hR : sinkGo (n + 1 - i) i l = R) :
    Calls Tryd.prog 94 #[.slice (some ⟨g, 0, none⟩) n cap, .int .i64 i] w fun e w' => e = .returned (.tuple #[]) ∧ NdAt w' g cap R ∧ Fr (One g) w w' := by
  have HR0 : Hid (sinkGo (n + 1 - i) i l = R) := hR; clear hR
  have HN : Hid (l.length = n) := hn; clear hn
  go_enter Tryd.func94, Tryd.ntmps94
  go_wp2_with fail
  go_loopw [1] (fun iv wr => ∃ (j f : Nat) (l2 : List Nd), iv = .int .i64 j ∧ j ≤ n ∧ n < j + f ∧ Hid (l2.length = n) ∧ NdAt wr g cap l2 ∧ Hid (sinkGo f j l2 = R) ∧ Fr (One g) w wr) (fun iv _ => n - (intOf iv).toNat)
  case atStart => exact ⟨i, n + 1 - i, l, rfl, hi, by omega, HN, h, HR0, Fr.refl _ _⟩
  case round =>
    obtain ⟨j, f, l2, rfl, hj, hjf, HN2, h2, HR, hfr⟩ := hrel
    cases f with
    | zero => omega
    | succ f =>
    go_wp2_with fail
    go_loopw [4, 5] (fun lv bv w3 => ∃ (k a : Nat), bv = .int .i64 (2 * j + 1 + k : Nat) ∧ lv = .int .i64 a ∧ k ≤ 2 ∧ Hid (lst l2 j k = a) ∧ (j < n → a < n) ∧ NdAt w3 g cap l2 ∧ Fr (One g) w w3) (fun _ bv _ => 2 * j + 3 - (intOf bv).toNat)
    case atStart => exact ⟨0, j, by go_num, rfl, by omega, rfl, fun h => h, h2, hfr⟩
    case round =>
      obtain ⟨k, a, rfl, rfl, hk, HA, ha, h3, hfr3⟩ := hrel
      obtain ⟨b, hb⟩ : ∃ b, 2 * j + 1 + k = b := ⟨_, rfl⟩
      rw [hb]
      have hnl := HN2.out
      have hstep : lst l2 j (k + 1) = if b < n ∧ ndLt (nd l2 b) (nd l2 a) = true then b else a := by
        have := HA.out
        simp only [lst, this, hb, hnl]
      by_cases hgo : b ≤ 2 * j + 2 ∧ b < n
      · obtain ⟨g1, g2⟩ := hgo
        have ha' := ha (by omega)
        have fz := h3.free
        obtain ⟨b0, b1⟩ := h3.cells b (by omega)
        obtain ⟨a0, a1⟩ := h3.cells a (by omega)
        have hc := fun x1 x2 y1 y2 => before_at h3 (x := b) (y := a) x1 x2 y1 y2 (by omega) (by omega)
        generalize nd l2 b = x at b0 b1 hstep hc
        generalize nd l2 a = y at a0 a1 hstep hc
        obtain ⟨x1, x2⟩ := x
        obtain ⟨y1, y2⟩ := y
        have HC := fun q : Unit => hc x1 x2 y1 y2 rfl rfl
        simp only at a0 a1 b0 b1
        clear hc
        have HST : Hid _ := hstep; clear hstep hnl
        have i1 : (b : Int) ≤ 2 * (j : Int) + 2 := by omega
        have i2 : (b : Int) < (n : Int) := by omega
        have i3 : (a : Int) < (n : Int) := by omega
        have HB : Hid (2 * j + 1 + k = b) := hb; clear hb
        go_wp2_with fail
        go_region_with (go_at_call 95; refine Calls.mono (HC ()) ?_; rintro e w1 ⟨rfl, f1, d0, d1, e0, e1, fz1, h4⟩)
        all_goals
          cases hlt : ndLt (x1, x2) (y1, y2)
          · go_wp2_with fail
            go_roundw
            case rel =>
              have hs := HST.out
              rw [if_neg (by rw [hlt]; simp)] at hs
              have hb := HB.out
              exact ⟨k + 1, a, by rw [show 2 * j + 1 + (k + 1) = b + 1 by omega]; go_num, rfl, by omega, hs, ha, h4, hfr3.trans (f1.mono fun _ _ e => e.elim)⟩
            case measure => simp [intOf]; omega
          · go_wp2_with fail
            go_roundw
            case rel =>
              have hs := HST.out
              rw [if_pos ⟨g2, hlt⟩] at hs
              have hb := HB.out
              exact ⟨k + 1, b, by rw [show 2 * j + 1 + (k + 1) = b + 1 by omega]; go_num, rfl, by omega, hs, fun _ => g2, h4, hfr3.trans (f1.mono fun _ _ e => e.elim)⟩
            case measure => simp [intOf]; omega
      · have hfin : lst l2 j 2 = a := by
          have := HA.out
          by_cases hk2 : k = 2
          · subst hk2; exact this
          · have hle := lst_end l2 j k (by omega) (2 - k)
            rw [show k + (2 - k) = 2 by omega] at hle
            rw [hle]; exact this
        clear hstep
        have hr := HR.out
        simp only [sinkGo, hfin] at hr
        have hge := lst_ge l2 j 2
        rw [hfin, hnl] at hge
        have fz := h3.free
        have hgl := h3.lt
        have i1 : ¬ ((b : Int) ≤ 2 * (j : Int) + 2 ∧ (b : Int) < (n : Int)) := by omega
        clear hb hfin
        by_cases haj : a = j
        · subst haj
          rw [if_pos rfl] at hr
          have HR1 : Hid _ := hr; clear hr HR
          clear hnl hge
          by_cases i2 : (b : Int) ≤ 2 * (a : Int) + 2
          · have i3 : ¬ (b : Int) < (n : Int) := fun h => i1 ⟨i2, h⟩
            clear i1
            go_wp2_with fail
            (try simp only [Exit.inBlock, Exit.then])
            refine bodyPost_ret (results_none rfl _ _ _) rfl ?_
            rw [← HR1.out]
            exact ⟨rfl, h3, hfr3⟩
          · clear i1
            go_wp2_with fail
            (try simp only [Exit.inBlock, Exit.then])
            refine bodyPost_ret (results_none rfl _ _ _) rfl ?_
            rw [← HR1.out]
            exact ⟨rfl, h3, hfr3⟩
        · rw [if_neg haj] at hr
          obtain ⟨q1, q3, q2⟩ := hge.resolve_left haj
          obtain ⟨b0, b1⟩ := h3.cells j (by omega)
          obtain ⟨a0, a1⟩ := h3.cells a (by omega)
          have hsw : swp l2 j a = (l2.set j (nd l2 a)).set a (nd l2 j) := rfl
          rw [hsw] at hr
          have hsl : ((l2.set j (nd l2 a)).set a (nd l2 j)).length = n := by simpa using hnl
          have hst := fun x y => (h3.set j y (by omega)).set a x (by simp; omega)
          generalize nd l2 j = x at b0 b1 hr hsl
          generalize nd l2 a = y at a0 a1 hr hsl
          obtain ⟨x1, x2⟩ := x
          obtain ⟨y1, y2⟩ := y
          have HST : Hid _ := hst (x1, x2) (y1, y2)
          simp only at a0 a1 b0 b1
          have HR1 : Hid _ := hr; clear hr HR
          have HL : Hid _ := hsl; clear hsl
          have i4 : (j : Int) < (n : Int) := by omega
          have i5 : (a : Int) < (n : Int) := by omega
          have i6 : ((a : Int) == (j : Int)) = false := by simp; omega
          clear hnl hge hsw hst
          by_cases i2 : (b : Int) ≤ 2 * (j : Int) + 2
          · have i3 : ¬ (b : Int) < (n : Int) := fun h => i1 ⟨i2, h⟩
            clear i1
            go_wp2_with fail
            go_region
            go_wp2_with fail
            go_roundw
            case rel =>
              refine ⟨a, f, _, rfl, by omega, by omega, HL, HST.out, HR1.out, ?_⟩
              exact ((((hfr3.setCell (p := ⟨g, j * 2, none⟩) rfl _).setCell (p := ⟨g, j * 2 + 1, none⟩) rfl _).setCell (p := ⟨g, a * 2, none⟩) rfl _).setCell (p := ⟨g, a * 2 + 1, none⟩) rfl _).drew
            case measure => simp [intOf]; omega
          · clear i1
            go_wp2_with fail
            go_region
            go_wp2_with fail
            go_roundw
            case rel =>
              refine ⟨a, f, _, rfl, by omega, by omega, HL, HST.out, HR1.out, ?_⟩
              exact ((((hfr3.setCell (p := ⟨g, j * 2, none⟩) rfl _).setCell (p := ⟨g, j * 2 + 1, none⟩) rfl _).setCell (p := ⟨g, a * 2, none⟩) rfl _).setCell (p := ⟨g, a * 2 + 1, none⟩) rfl _).drew
            case measure => simp [intOf]; omega
end Go.Proofs.YtdpobjgfnhjagaaDoor

namespace Go.Proofs.YtdpobjgfnhjagaaDoor
open Go.RowKit

/-- append to an own row, as one step of a region that draws. -/
theorem step_append_own {P : Program} {ops : Array Oper} {o : Oper} {a : Act} {w : World} {K : Act → World → Prop} {Q : Exit → Act → World → Prop} {E : Prop}
    (hg : o.guard = none) (s x : Operand) (t : TypeId) (hop : o.op = Op.call { callee := Callee.builtin Builtin.append, args := #[s, x], argTypes := #[t, t] })
    (base : Nat) (e : TypeId) (i : TypeInfo) (z : Value) (size bytes : Nat) (h1 : P.underlying t = some (.slice e)) (h2 : P.info? e = some i) (h3 : i.zero = some z) (h4 : i.size = size) (h5 : i.bytes = bytes) (h6 : z.cells.size = size) (h7 : 0 < size)
    (v : Value) (n : Nat) (xs : List Value) (hs : a.eval s = v) (hown : w.ownsRow base e size v n xs)
    (ad : Addr) (m c : Nat) (news : List Value) (hx : a.eval x = .slice (some ad) m c) (hn : news.length = m * size) (hc : ∀ j u, news[j]? = some u → w.cell? (ad.add j) = some u) (h1c : ∀ u ∈ news, u.oneCell' = true)
    (b1 : n + m ≤ maxLen) (b2 : (n + m) * bytes ≤ 140737488355328) (b3 : base ≤ w.heap.size)
    (hK : ∀ v' w', w'.ownsRow base e size v' (n + m) (xs ++ news) → w.grownBy w' v.ownBlock → K (a.put o.dst v') w') :
    if Region.wanted o (yielded ops a.tmps) = true then Oper.wp P o a w K Q else E := by
  have hw : Region.wanted o (yielded ops a.tmps) = true := by simp [Region.wanted, hg]
  rw [if_pos hw]
  obtain ⟨v', w', hrun, r1, r2, _⟩ := run_append_own (P := P) w base t o.type e i z size bytes h1 h2 h3 h4 h5 h6 h7 v n xs hown ad m c news hn hc h1c b1 b2 b3
  unfold Oper.wp
  simp [execOp, hop, resolve, invoke, builtin, hs, hx, hrun, Result.andThen]
  exact hK v' w' r1 r2

/-- What work on a list of type T that is held in block B leaves: all ahead of B, and what lies behind it and is of another type. -/
structure Kt (T : TypeId) (B : Nat) (w w' : World) : Prop where
  below : Below B w w'
  other : ∀ (k : Nat) (arr : Array Value) (t : TypeId) (f : Nat × Nat), B < k → t ≠ T → w.heap[k]? = some (.cells arr t f) → w'.heap[k]? = some (.cells arr t f)

theorem Kt.refl (T : TypeId) (B : Nat) (w : World) : Kt T B w w := ⟨Below.refl _ _, fun _ _ _ _ _ _ h => h⟩
theorem Kt.trans {T : TypeId} {B : Nat} {a b c : World} (h : Kt T B a b) (k : Kt T B b c) : Kt T B a c := ⟨h.below.trans k.below, fun i arr t f h1 h2 h3 => k.other i arr t f h1 h2 (h.other i arr t f h1 h2 h3)⟩
theorem Kt.none {T : TypeId} {B : Nat} {w w' : World} (hB : B ≤ w.heap.size) (f : Fr Non w w') : Kt T B w w' :=
  ⟨f.below hB (fun _ hk => hk.elim), fun k _ _ _ _ _ h3 => (f.block k (lt_of_heap h3) (fun e => e)).trans h3⟩
/-- B alone, and a block of that type behind it. -/
theorem Kt.two {T : TypeId} {B g : Nat} {w w' : World} (hB : B < w.heap.size) (hBg : B < g) {cur : Array Value} {fr : Nat × Nat} (hg : w.heap[g]? = some (.cells cur T fr)) (f : Fr (fun k => k = B ∨ k = g) w w') : Kt T B w w' := by
  refine ⟨f.below (by omega) (fun k hk => by rcases hk with hk | hk <;> omega), fun k arr t fr h1 h2 h3 => (f.block k (lt_of_heap h3) ?_).trans h3⟩
  rintro (hk | hk)
  · omega
  · subst hk
    rw [h3] at hg
    simp at hg
    exact h2 hg.2.1
theorem Kt.oneB {T : TypeId} {B : Nat} {w w' : World} (hB : B < w.heap.size) (f : Fr (One B) w w') : Kt T B w w' :=
  ⟨f.below (by omega) (fun k hk => by simp [One] at hk; omega), fun k arr t fr h1 _ h3 => (f.block k (lt_of_heap h3) (by simp [One]; omega)).trans h3⟩

/-- The heap, held in block B. -/
def HpAt (B : Nat) (w : World) (l : List Nd) : Prop := ∃ v, w.heap[B]? = some (.cells #[v] 126 (0, 0)) ∧ w.ownsRow (B + 1) 129 2 v l.length (ndC l)

theorem HpAt.lt {B : Nat} {w : World} {l : List Nd} (h : HpAt B w l) : B < w.heap.size := by
  obtain ⟨v, h1, _⟩ := h
  exact lt_of_heap h1

theorem owns_nd {w : World} {base g cap n : Nat} {l : List Nd} (h : w.ownsRow base 129 2 (.slice (some ⟨g, 0, none⟩) n cap) n (ndC l)) : NdAt w g cap l ∧ base ≤ g ∧ l.length = n := by
  have h0 := h.1
  rw [ndC_length] at h0
  rcases h.2 with ⟨h1, _⟩ | ⟨g', cap', cur, hv, hb, hh, hn, hc, hs, ht⟩
  · cases h1
  · simp at hv
    obtain ⟨rfl, rfl⟩ := hv
    have : l.length = n := by omega
    subst this
    exact ⟨⟨cur, hh, hs, hn, hc, ht⟩, hb, rfl⟩
theorem nd_owns {w : World} {base g cap : Nat} {l : List Nd} (h : NdAt w g cap l) (hb : base ≤ g) : w.ownsRow base 129 2 (.slice (some ⟨g, 0, none⟩) l.length cap) l.length (ndC l) := by
  obtain ⟨cur, h1, h2, h3, h4, h5⟩ := h
  exact ⟨ndC_length l, Or.inr ⟨g, cap, cur, rfl, hb, h1, h3, h4, h2, h5⟩⟩

theorem info129 : (Tryd.prog.info? 129).map (fun i => (i.zero, i.size, i.bytes)) = some (some (.agg #[.int .i64 0, .int .i64 0]), 2, 16) := by kernel_rfl
theorem underlying126 : Tryd.prog.underlying 126 = some (.slice 129) := by kernel_rfl

theorem push_one {x1 x2 : Int} : ∀ u ∈ [Value.int .i64 x1, Value.int .i64 x2], u.oneCell' = true := by
  intro u hu
  simp at hu
  rcases hu with rfl | rfl <;> rfl
theorem push_cells (w : World) (o : Obj) (a b : Value) : ∀ j u, [a, b][j]? = some u → ((w.alloc o).alloc (.cells #[a, b] 129)).drew.cell? ((⟨w.heap.size + 1, 0, none⟩ : Addr).add j) = some u := by
  have := cell_two_new (w.alloc o) a b 129
  rw [show (w.alloc o).heap.size = w.heap.size + 1 by simp] at this
  exact this
theorem push_side {w w' : World} {B n cp : Nat} {ao : Option Addr} {v' : Value} {o1 o2 : Obj} {xs ys : List Value} (hB : B < w.heap.size) (hh : w.heap[B]? = some (.cells #[.slice ao n cp] 126 (0, 0))) (ho : w.ownsRow (B + 1) 129 2 (.slice ao n cp) n xs)
    (hown : w'.ownsRow (B + 1) 129 2 v' (n + 1) ys) (hg : ((w.alloc o1).alloc o2).drew.grownBy w' (Value.slice ao n cp).ownBlock) :
    ∃ g cap', w'.cell? ⟨B, 0, none⟩ = some (.slice ao n cp) ∧ B < w'.heap.size ∧ Hid (w'.heap[B]? = some (.cells #[.slice ao n cp] 126 (0, 0))) ∧ (∀ i, w'.frozen? ⟨B, i, none⟩ = false) ∧ Hid (w'.ownsRow (B + 1) 129 2 (.slice (some ⟨g, 0, none⟩) (n + 1) cap') (n + 1) ys) ∧ Hid (Kt 129 B w w') ∧ v' = .slice (some ⟨g, 0, none⟩) (n + 1) cap' := by
  obtain ⟨g, cap', rfl⟩ : ∃ g cap', v' = .slice (some ⟨g, 0, none⟩) (n + 1) cap' := by
    rcases hown.2 with ⟨_, h⟩ | ⟨g, cap', _, h, _⟩
    · omega
    · exact ⟨g, cap', h⟩
  have hsz : w.heap.size < ((w.alloc o1).alloc o2).drew.heap.size := by show _ < ((w.heap.push o1).push o2).size; simp; omega
  have hb1 : w'.heap[B]? = w.heap[B]? := by
    rw [hg.block B (by omega) (fun e => by have := (owns_block ho e.symm).1; omega)]
    exact (heap_alloc_old (by simp; omega) _).trans (heap_alloc_old hB _)
  have hh' := hb1.trans hh
  have hf0 : Fr (fun k => (Value.slice ao n cp).ownBlock = some k) w ((w.alloc o1).alloc o2).drew := (((Fr.refl _ _).alloc _).alloc _).drew
  have hfr : Fr (fun k => (Value.slice ao n cp).ownBlock = some k) w w' := hf0.grown hg (fun k hk _ => hk)
  refine ⟨g, cap', cell_of_heap hh' 0, lt_of_heap hh', hh', free_of_heap hh', hown, ?_, rfl⟩
  refine ⟨hfr.below (by omega) (fun k hk => by have := (owns_block ho hk).1; omega), fun k arr t fr h1 h2 h3 => (hfr.block k (lt_of_heap h3) ?_).trans h3⟩
  intro hk
  rcases ho.2 with ⟨hv, _⟩ | ⟨g2, cap2, cur, hv, _, hh2, _⟩
  · rw [hv] at hk; cases hk
  · rw [hv] at hk
    simp [Value.ownBlock] at hk
    subst hk
    rw [h3] at hh2
    simp at hh2
    exact h2 hh2.2.1

theorem push_rise {w w' : World} {B g cap' x1 x2 n cp : Nat} {ao : Option Addr} {l R : List Nd} (hR : pushL l (x1, x2) = R) (hl : l.length ≤ 900)
    (hN : w'.ownsRow (B + 1) 129 2 (.slice (some ⟨g, 0, none⟩) (l.length + 1) cap') (l.length + 1) (ndC l ++ [.int .i64 (x1 : Int), .int .i64 (x2 : Int)])) (hB : w'.heap[B]? = some (.cells #[.slice ao n cp] 126 (0, 0))) (hk : Kt 129 B w w') :
    Calls Tryd.prog 93 #[.slice (some ⟨g, 0, none⟩) (l.length + 1) cap', .int .i64 (l.length : Nat)] (w'.setCell ⟨B, 0, none⟩ (.slice (some ⟨g, 0, none⟩) (l.length + 1) cap')).drew fun e w2 => e = .returned (.tuple #[]) ∧ HpAt B w2 R ∧ Kt 129 B w w2 := by
  have hN' : w'.ownsRow (B + 1) 129 2 (.slice (some ⟨g, 0, none⟩) (l.length + 1) cap') (l.length + 1) (ndC (l ++ [(x1, x2)])) := by
    rw [ndC_append]; exact hN
  obtain ⟨h1, h2, h3⟩ := owns_nd hN'
  have hBg : B ≠ g := by omega
  have h1' := h1.keep (w' := w'.setCell ⟨B, 0, none⟩ (.slice (some ⟨g, 0, none⟩) (l.length + 1) cap')) (heap_set_other (fun e => hBg e.symm) _ _)
  refine (rise_any g l.length (l.length + 1) cap' (l ++ [(x1, x2)]) R (w'.setCell ⟨B, 0, none⟩ (.slice (some ⟨g, 0, none⟩) (l.length + 1) cap')).drew h1' h3 (by omega) (by omega) hR).mono ?_
  rintro e w2 ⟨rfl, k1, f1⟩
  have hset := heap_set hB 0 (.slice (some ⟨g, 0, none⟩) (l.length + 1) cap')
  have hBs := lt_of_heap hB
  obtain ⟨cur, hcur, _⟩ := id h1
  have hRl : R.length = l.length + 1 := by
    rw [← hR]
    have : ∀ f i (m : List Nd), (riseGo f i m).length = m.length := by
      intro f
      induction f with
      | zero => intro i m; rfl
      | succ f ih =>
        intro i m
        simp only [riseGo]
        split
        · rfl
        · split
          · rw [ih, swp_length]
          · rfl
    unfold pushL
    rw [this]
    simp
  refine ⟨rfl, ⟨.slice (some ⟨g, 0, none⟩) (l.length + 1) cap', ?_, ?_⟩, ?_⟩
  · exact (f1.block B (by show B < (w'.setCell _ _).heap.size; simpa [World.setCell] using hBs) (by simp [One]; exact hBg)).trans hset
  · rw [← hRl]
    exact nd_owns k1 h2
  · refine hk.trans (Kt.two (g := g) hBs (by omega) hcur ?_)
    exact ((((Fr.refl _ w').setCell (p := ⟨B, 0, none⟩) (Or.inl rfl) _).drew).trans (f1.mono fun k _ e => Or.inr e))

set_option maxRecDepth 100000 in
set_option maxHeartbeats 2000000 in
theorem push_any (B x1 x2 : Nat) (l R : List Nd) (w : World) (h : HpAt B w l) (hl : l.length ≤ 900) (hR : pushL l (x1, x2) = R) :
    Calls Tryd.prog 87 #[.pointer (some ⟨B, 0, none⟩), .agg #[.int .i64 (x1 : Int), .int .i64 (x2 : Int)]] w fun e w' => e = .returned (.tuple #[]) ∧ HpAt B w' R ∧ Kt 129 B w w' := by
  have HR : Hid (pushL l (x1, x2) = R) := hR; clear hR
  obtain ⟨i0, hi, hz0, hz1, hz2⟩ := info_parts info129
  have hB := h.lt
  obtain ⟨v, hh, ho⟩ := h
  obtain ⟨ao, cp, rfl⟩ := owns_slice ho
  have c0 : w.cell? ⟨B, 0, none⟩ = some (.slice ao l.length cp) := cell_of_heap hh 0
  have fz := free_of_heap hh
  have HH : Hid (w.heap[B]? = some (.cells #[.slice ao l.length cp] 126 (0, 0))) := hh; clear hh
  have HO : Hid (w.ownsRow (B + 1) 129 2 (.slice ao l.length cp) l.length (ndC l)) := ho; clear ho
  go_enter Tryd.func87, Tryd.ntmps87
  go_wp2_with fail
  go_region_law (refine step_append_own rfl (.tmp 7) (.tmp 9) 126 rfl (B + 1) 129 i0 (.agg #[.int .i64 0, .int .i64 0]) 2 16 underlying126 hi hz0 hz1 hz2 rfl (by decide) (.slice ao l.length cp) l.length (ndC l) (by simp [Act.eval]) (owns_keep HO.out (fun g _ hg => (heap_alloc_old (by simp; omega) _).trans (heap_alloc_old hg _))) ⟨w.heap.size + 1, 0, none⟩ 1 1 [.int .i64 (x1 : Int), .int .i64 (x2 : Int)] (by simp [Act.eval]) rfl (push_cells w _ _ _) push_one (by unfold maxLen; omega) (by omega) (by simp; omega) ?_; intro v' w' hown hgrow; obtain ⟨g, cap', k1, hB', K1, fz1, HN, KT, rfl⟩ := push_side hB HH.out HO.out hown hgrow)
  all_goals
    clear hown hgrow
    have hcall := push_rise (cap' := cap') (g := g) HR.out hl HN.out K1.out KT.out
    have HC : Hid _ := hcall; clear hcall
    have hw1 : IntKind.i64.wrap (l.length : Int) = (l.length : Int) := by rw [IntKind.wrap_i64]; omega
    go_wp2_with fail
    go_region_with (go_at_call 93; refine Calls.mono HC.out ?_; rintro e w2 ⟨rfl, h2, f2⟩)
    all_goals
      go_wp2_with fail
      go_end0
      exact ⟨rfl, h2, f2⟩

end Go.Proofs.YtdpobjgfnhjagaaDoor

