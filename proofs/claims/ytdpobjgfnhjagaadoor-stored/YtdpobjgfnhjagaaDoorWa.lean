import Derived.Test.YtdpobjgfnhjagaaDoorBase
namespace Go.Proofs.YtdpobjgfnhjagaaDoor
open Go.RowKit

set_option maxHeartbeats 400000 in
theorem giveUp_any (e : Int) (w : World) :
    Calls Tryd.prog 45 #[.int .i64 e] w fun r w' => r = stop e ∧ w' = w := by
  go_enter Tryd.func45, Tryd.ntmps45
  go_wp2
  exact ⟨rfl, rfl, rfl⟩

set_option maxHeartbeats 400000 in
theorem take_short (B : Nat) (ao : Option Addr) (l c : Nat) (held left lim : Int) (ov fx : Value) (w : World)
    (h : w.heap[B]? = some (RB (.slice ao l c) l held left ov lim fx)) :
    Calls Tryd.prog 40 #[.pointer (some ⟨B, 0, none⟩)] w fun r w' => r = stop 2 ∧ w' = w.drew := by
  obtain ⟨c0, c1, c2, c3, c4, c5, c6, hf⟩ := rb_cells h
  clear h
  go_enter Tryd.func40, Tryd.ntmps40
  go_wp2_with fail
  go_region
  go_wp2_with (go_at_call 45; refine (giveUp_any _ _).mono ?_; rintro e w' ⟨rfl, rfl⟩)
  exact ⟨rfl, rfl, rfl⟩

set_option maxHeartbeats 400000 in
theorem take_ok (B b o l c p : Nat) (held left lim x : Int) (ov fx : Value) (w : World)
    (h : w.heap[B]? = some (RB (.slice (some ⟨b, o, none⟩) l c) p held left ov lim fx)) (hp : p < l) (hl : l ≤ maxLen) (hb : b ≠ B)
    (hx : w.cell? ⟨b, o + p, none⟩ = some (.int .u8 x)) :
    Calls Tryd.prog 40 #[.pointer (some ⟨B, 0, none⟩)] w fun r w' => r = .returned (.int .u8 x) ∧
      w'.heap[B]? = some (RB (.slice (some ⟨b, o, none⟩) l c) (p + 1 : Nat) held left ov lim fx) ∧ Fr (One B) w w' := by
  obtain ⟨c0, c1, c2, c3, c4, c5, c6, hf⟩ := rb_cells h
  unfold maxLen at hl
  have hne : ((p : Int) == (l : Int)) = false := by simp; omega
  have H : Hid _ := h; clear h
  go_enter Tryd.func40, Tryd.ntmps40
  go_wp2_with fail
  go_region
  go_wp2_with fail
  go_region
  go_wp2_with fail
  go_ret
  refine ⟨rfl, ?_, ?_⟩
  · have := heap_set H.out 1 (.int .i64 ((p : Int) + 1))
    simpa [heap_drew] using this
  · exact (((Fr.refl (One B) w).setCell (p := ⟨B, 1, none⟩) rfl _).drew).drew

set_option maxHeartbeats 400000 in
theorem bit_more (B : Nat) (k p : Nat) (held lim : Int) (bv ov fx : Value) (w : World)
    (h : w.heap[B]? = some (RB bv p held (k + 1 : Nat) ov lim fx)) (h0 : 0 ≤ held) (h1 : held < 256) (hk : k < 8) :
    Calls Tryd.prog 22 #[.pointer (some ⟨B, 0, none⟩)] w fun r w' => r = .returned (.int .i64 (held % 2)) ∧
      w'.heap[B]? = some (RB bv p (held / 2) k ov lim fx) ∧ Fr (One B) w w' := by
  obtain ⟨c0, c1, c2, c3, c4, c5, c6, hf⟩ := rb_cells h
  have hne : (((k + 1 : Nat) : Int) == 0) = false := by simp; omega
  have H : Hid _ := h; clear h
  go_enter Tryd.func22, Tryd.ntmps22
  go_wp2_with fail
  go_ret
  refine ⟨ret_int ?_, ?_, ?_⟩
  · show wrap64 (bits BinOp.and IntKind.u8 held 1) = held % 2
    rw [land_one held h0 h1]
    exact IntWalk.wrap64_in _ (by omega)
  · have := heap_set (heap_set H.out 2 (.int .u8 (held / 2))) 3 (.int .i64 k)
    simpa [heap_drew] using this
  · exact ((Fr.refl (One B) w).setCell (p := ⟨B, 2, none⟩) rfl _).setCell (p := ⟨B, 3, none⟩) rfl _

set_option maxHeartbeats 400000 in
theorem bit_fresh (B b o l c p : Nat) (held lim x : Int) (ov fx : Value) (w : World)
    (h : w.heap[B]? = some (RB (.slice (some ⟨b, o, none⟩) l c) p held 0 ov lim fx)) (hp : p < l) (hl : l ≤ maxLen) (hb : b ≠ B)
    (hx : w.cell? ⟨b, o + p, none⟩ = some (.int .u8 x)) (h0 : 0 ≤ x) (h1 : x < 256) :
    Calls Tryd.prog 22 #[.pointer (some ⟨B, 0, none⟩)] w fun r w' => r = .returned (.int .i64 (x % 2)) ∧
      w'.heap[B]? = some (RB (.slice (some ⟨b, o, none⟩) l c) (p + 1 : Nat) (x / 2) 7 ov lim fx) ∧ Fr (One B) w w' := by
  obtain ⟨c0, c1, c2, c3, c4, c5, c6, hf⟩ := rb_cells h
  have H : Hid _ := h; clear h
  go_enter Tryd.func22, Tryd.ntmps22
  go_wp2_with fail
  refine (take_ok B b o l c p held 0 lim x ov fx w H.out hp hl hb hx).mono ?_
  rintro e w1 ⟨rfl, k1, f1⟩
  obtain ⟨d0, d1, d2, d3, d4, d5, d6, df⟩ := rb_cells k1
  have K : Hid _ := k1; clear k1
  go_wp2_with fail
  go_ret
  refine ⟨ret_int ?_, ?_, ?_⟩
  · show wrap64 (bits BinOp.and IntKind.u8 x 1) = x % 2
    rw [land_one x h0 h1]
    exact IntWalk.wrap64_in _ (by omega)
  · have := heap_set (heap_set (heap_set (heap_set K.out 2 (.int .u8 x)) 3 (.int .i64 8)) 2 (.int .u8 (x / 2))) 3 (.int .i64 7)
    simpa [heap_drew] using this
  · exact (((f1.setCell (p := ⟨B, 2, none⟩) rfl _).setCell (p := ⟨B, 3, none⟩) rfl _).setCell (p := ⟨B, 2, none⟩) rfl _).setCell (p := ⟨B, 3, none⟩) rfl _

set_option maxHeartbeats 400000 in
theorem bit_short (B : Nat) (ao : Option Addr) (l c : Nat) (held lim : Int) (ov fx : Value) (w : World)
    (h : w.heap[B]? = some (RB (.slice ao l c) l held 0 ov lim fx)) :
    Calls Tryd.prog 22 #[.pointer (some ⟨B, 0, none⟩)] w fun r w' => r = stop 2 ∧ w' = w.drew := by
  obtain ⟨c0, c1, c2, c3, c4, c5, c6, hf⟩ := rb_cells h
  have H : Hid _ := h; clear h
  go_enter Tryd.func22, Tryd.ntmps22
  go_wp2_with fail
  refine (take_short B ao l c held 0 lim ov fx w H.out).mono ?_
  rintro e w1 ⟨rfl, rfl⟩
  go_wp2_with fail
  exact ⟨rfl, rfl, rfl⟩

set_option maxHeartbeats 400000 in
theorem pass_any (B : Nat) (p held left lim : Int) (bv ov fx : Value) (w : World)
    (h : w.heap[B]? = some (RB bv p held left ov lim fx)) :
    Calls Tryd.prog 64 #[.pointer (some ⟨B, 0, none⟩)] w fun r w' => r = .returned (.tuple #[]) ∧
      w'.heap[B]? = some (RB bv p held 0 ov lim fx) ∧ Fr (One B) w w' := by
  obtain ⟨c0, c1, c2, c3, c4, c5, c6, hf⟩ := rb_cells h
  have H : Hid _ := h; clear h
  go_enter Tryd.func64, Tryd.ntmps64
  go_wp2_with fail
  go_end0
  refine ⟨rfl, ?_, ?_⟩
  · have := heap_set H.out 3 (.int .i64 0)
    simpa [heap_drew] using this
  · exact (Fr.refl (One B) w).setCell (p := ⟨B, 3, none⟩) rfl _

theorem ne_of_cell {w : World} {b k : Nat} {S : Nat → Prop} {w' : World} (f : Fr S w w') (hs : ¬ S b) {v : Value} (h : w.cell? ⟨b, k, none⟩ = some v) : w'.cell? ⟨b, k, none⟩ = some v := by
  have hb : b < w.heap.size := by
    by_cases hb : b < w.heap.size
    · exact hb
    · simp [World.cell?, Array.getElem?_eq_none (Nat.not_lt.1 hb)] at h
  rw [f.cell hb hs]; exact h

set_option maxHeartbeats 400000 in
theorem two_ok (B b o l c p : Nat) (held left lim x y : Int) (ov fx : Value) (w : World)
    (h : w.heap[B]? = some (RB (.slice (some ⟨b, o, none⟩) l c) p held left ov lim fx)) (hp : p + 1 < l) (hl : l ≤ maxLen) (hb : b ≠ B)
    (hx : w.cell? ⟨b, o + p, none⟩ = some (.int .u8 x)) (hy : w.cell? ⟨b, o + (p + 1), none⟩ = some (.int .u8 y)) (x0 : 0 ≤ x) (x1 : x < 256) (y0 : 0 ≤ y) (y1 : y < 256) :
    Calls Tryd.prog 65 #[.pointer (some ⟨B, 0, none⟩)] w fun r w' => r = .returned (.int .i64 (x + 256 * y)) ∧
      w'.heap[B]? = some (RB (.slice (some ⟨b, o, none⟩) l c) (p + 2 : Nat) held left ov lim fx) ∧ Fr (One B) w w' := by
  have H : Hid _ := h; clear h
  go_enter Tryd.func65, Tryd.ntmps65
  go_wp2_with fail
  refine (take_ok B b o l c p held left lim x ov fx w H.out (by omega) hl hb hx).mono ?_
  rintro e w1 ⟨rfl, k1, f1⟩
  have hy1 := ne_of_cell f1 hb hy
  have K : Hid _ := k1; clear k1
  go_wp2_with fail
  refine (take_ok B b o l c (p + 1) held left lim y ov fx w1 K.out hp hl hb hy1).mono ?_
  rintro e w2 ⟨rfl, k2, f2⟩
  have K2 : Hid _ := k2; clear k2
  go_wp2_with fail
  go_ret
  refine ⟨ret_int ?_, K2.out, f1.trans f2⟩
  exact or_add 8 x y x0 (by omega) y0 (by omega) (by omega)

set_option maxHeartbeats 400000 in
theorem number_two (B : Nat) (k p : Nat) (held lim : Int) (bv ov fx : Value) (w : World)
    (h : w.heap[B]? = some (RB bv p held (k + 2 : Nat) ov lim fx)) (h0 : 0 ≤ held) (h1 : held < 256) (hk : k < 7) :
    Calls Tryd.prog 24 #[.pointer (some ⟨B, 0, none⟩), .int .i64 2] w fun r w' => r = .returned (.int .i64 (held % 4)) ∧
      w'.heap[B]? = some (RB bv p (held / 4) k ov lim fx) ∧ Fr (One B) w w' := by
  have H : Hid _ := h; clear h
  go_enter Tryd.func24, Tryd.ntmps24
  go_wp2_with fail
  go_loopw [5, 8] (fun n i wr => ((i = .int .i64 0 ∧ n = .int .i64 0 ∧ wr.heap[B]? = some (RB bv p held (k + 2 : Nat) ov lim fx)) ∨ (i = .int .i64 1 ∧ n = .int .i64 (held % 2) ∧ wr.heap[B]? = some (RB bv p (held / 2) (k + 1 : Nat) ov lim fx)) ∨ (i = .int .i64 2 ∧ n = .int .i64 (held % 4) ∧ wr.heap[B]? = some (RB bv p (held / 4) k ov lim fx))) ∧ Fr (One B) w wr) (fun _ i _ => 2 - (intOf i).toNat)
  case atStart => exact ⟨Or.inl ⟨rfl, rfl, H.out⟩, Fr.refl _ _⟩
  case round =>
    obtain ⟨⟨rfl, rfl, hh⟩ | ⟨rfl, rfl, hh⟩ | ⟨rfl, rfl, hh⟩, hfr⟩ := hrel
    · have HH : Hid _ := hh; clear hh
      go_wp2_with fail
      refine (bit_more B (k + 1) p held lim bv ov fx wr HH.out h0 h1 (by omega)).mono ?_
      rintro e w1 ⟨rfl, k1, f1⟩
      have K1 : Hid _ := k1; clear k1
      go_wp2_with fail
      go_roundw
      case rel => 
        refine ⟨Or.inr (Or.inl ⟨rfl, ?_, K1.out⟩), hfr.trans f1⟩
        have e : bits BinOp.or IntKind.i64 0 (held % 2) = held % 2 := by
          have := or_add 0 0 (held % 2) (by omega) (by omega) (by omega) (by omega) (by omega)
          simpa using this
        rw [e]
      case measure => simp [intOf]
    · have HH : Hid _ := hh; clear hh
      go_wp2_with fail
      refine (bit_more B k p (held / 2) lim bv ov fx wr HH.out (by omega) (by omega) (by omega)).mono ?_
      rintro e w1 ⟨rfl, k1, f1⟩
      have K1 : Hid _ := k1; clear k1
      go_wp2_with fail
      go_roundw
      case rel => 
        refine ⟨Or.inr (Or.inr ⟨rfl, ?_, ?_⟩), hfr.trans f1⟩
        · have e : bits BinOp.or IntKind.i64 (held % 2) (held / 2 % 2 * 2) = held % 4 := by
            have := or_add 1 (held % 2) (held / 2 % 2) (by omega) (by omega) (by omega) (by omega) (by omega)
            rw [show (2 : Int) ^ 1 = 2 from rfl] at this
            rw [this]; omega
          rw [e]
        · have e : held / 2 / 2 = held / 4 := by omega
          rw [← e]; exact K1.out
      case measure => simp [intOf]
    · have HH : Hid _ := hh; clear hh
      go_wp2_with fail
      go_ret
      exact ⟨rfl, HH.out, hfr⟩

/-- append one byte -/
theorem info5 : (Tryd.prog.info? 5).map (fun i => (i.zero, i.size, i.bytes)) = some (some (.int .u8 0), 1, 1) := by kernel_rfl
theorem underlying25 : Tryd.prog.underlying 25 = some (.slice 5) := by kernel_rfl

set_option maxHeartbeats 400000 in
theorem put_limit (B : Nat) (p held left x : Int) (n : Nat) (bv ov fx : Value) (xs : List Value) (w : World) (base : Nat)
    (h : w.heap[B]? = some (RB bv p held left ov n fx)) (hown : w.ownsRow base 5 1 ov n xs) :
    Calls Tryd.prog 66 #[.pointer (some ⟨B, 0, none⟩), .int .u8 x] w fun r w' => r = stop 4 ∧ w' = w.drew := by
  obtain ⟨ao, cp, rfl⟩ : ∃ ao cp, ov = .slice ao n cp := by
    rcases hown.2 with ⟨h1, h2⟩ | ⟨g, cap, cur, h1, _⟩
    · exact ⟨none, 0, by rw [h1, h2]⟩
    · exact ⟨_, _, h1⟩
  clear hown
  obtain ⟨c0, c1, c2, c3, c4, c5, c6, hf⟩ := rb_cells h
  have H : Hid _ := h; clear h
  go_enter Tryd.func66, Tryd.ntmps66
  go_wp2_with fail
  go_region
  go_wp2_with (go_at_call 45; refine (giveUp_any _ _).mono ?_; rintro e w' ⟨rfl, rfl⟩)
  exact ⟨rfl, rfl, rfl⟩

set_option maxHeartbeats 800000 in
theorem put_ok (B : Nat) (p held left lim x : Int) (n : Nat) (bv ov fx : Value) (xs : List Value) (w : World)
    (h : w.heap[B]? = some (RB bv p held left ov lim fx)) (hown : w.ownsRow (B + 1) 5 1 ov n xs) (hn : (n : Int) < lim) (hlim : lim ≤ 60000) :
    Calls Tryd.prog 66 #[.pointer (some ⟨B, 0, none⟩), .int .u8 x] w fun r w' => r = .returned (.tuple #[]) ∧
      ∃ ov', w'.heap[B]? = some (RB bv p held left ov' lim fx) ∧ w'.ownsRow (B + 1) 5 1 ov' (n + 1) (xs ++ [.int .u8 x]) ∧ Fr (fun k => k = B ∨ ov.ownBlock = some k) w w' := by
  obtain ⟨ao, cp, rfl⟩ : ∃ ao cp, ov = .slice ao n cp := by
    rcases hown.2 with ⟨h1, h2⟩ | ⟨g, cap, cur, h1, _⟩
    · exact ⟨none, 0, by rw [h1, h2]⟩
    · exact ⟨_, _, h1⟩
  obtain ⟨i0, hi, hz0, hz1, hz2⟩ := info_parts info5
  obtain ⟨c0, c1, c2, c3, c4, c5, c6, hf⟩ := rb_cells h
  have hB := lt_of_heap h
  have hne : ((n : Int) == lim) = false := by simp; omega
  have H : Hid _ := h; clear h
  have HO : Hid _ := hown; clear hown
  go_enter Tryd.func66, Tryd.ntmps66
  go_wp2_with fail
  go_region
  go_wp2_with (at_builtin; refine wpList_append_own _ rfl (.tmp 19) (.tmp 21) 25 rfl (B + 1) 5 i0 (.int .u8 0) 1 1 underlying25 hi hz0 hz1 hz2 rfl (by decide) (.slice ao n cp) n xs rfl ?own ⟨w.heap.size, 0, none⟩ 1 1 [.int .u8 x] rfl rfl ?c1 ?c2 ?b1 ?b2 ?b3 ?grow)
  case own => exact owns_keep HO.out (fun g _ hg => heap_alloc_old hg _)
  case c1 => intro j u hj; match j, hj with | 0, hj => simp at hj; subst hj; simp [Addr.add]
  case c2 => intro u hu; simp at hu; subst hu; rfl
  case b1 => unfold maxLen; omega
  case b2 => omega
  case b3 => simp; omega
  case grow =>
    intro v' w' hown hgrow _
    obtain ⟨g, cap', rfl⟩ : ∃ g cap', v' = .slice (some ⟨g, 0, none⟩) (n + 1) cap' := by
      rcases hown.2 with ⟨_, h⟩ | ⟨g, cap', _, h, _⟩
      · omega
      · exact ⟨g, cap', h⟩
    have hBk : w'.heap[B]? = w.heap[B]? := by
      rw [hgrow.block B (by show B < (w.heap.push _).size; simp; omega) (fun e => by have := (owns_block HO.out e.symm).1; omega)]
      exact heap_alloc_old hB _
    have k1 := hBk.trans H.out
    obtain ⟨d0, d1, d2, d3, d4, d5, d6, df⟩ := rb_cells k1
    have K1 : Hid _ := k1; clear k1 hBk
    have HN : Hid _ := hown; clear hown
    have HG : Hid _ := hgrow; clear hgrow
    go_wp2_with fail
    go_end0
    have hfr : Fr (fun k => k = B ∨ (Value.slice ao n cp).ownBlock = some k) w w' :=
      (((Fr.refl _ w).alloc _).drew).grown HG.out (fun k hk _ => Or.inr hk)
    refine ⟨rfl, .slice (some ⟨g, 0, none⟩) (n + 1) cap', ?_, ?_, ?_⟩
    · have := heap_set K1.out 4 (.slice (some ⟨g, 0, none⟩) (n + 1) cap')
      simpa [heap_drew] using this
    · refine owns_keep HN.out (fun g' hg' _ => heap_set_other ?_ _ _)
      have := (owns_block HN.out hg').1
      omega
    · exact hfr.setCell (p := ⟨B, 4, none⟩) (Or.inl rfl) _

end Go.Proofs.YtdpobjgfnhjagaaDoor
