import Derived.Test.YtdpobjgfnhjagaaDoorWj
namespace Go.Proofs.YtdpobjgfnhjagaaDoor
open Go.RowKit

/-- The fixed literal codes. -/
def litC : List Int := [0, 0, 0, 0, 0, 0, 0, 24, 152, 112, 0, 0, 0, 0, 0, 0]
def litN : List Int := [0, 0, 0, 0, 0, 0, 0, 0, 24, 176, 288, 288, 288, 288, 288, 288]
def litS : List Int := (run2 lits 0 (litN, List.replicate 288 0)).2
theorem lit_run1 : run1 lits (List.replicate 16 0, 0) = (litC, 9) := by decide +kernel
theorem lit_ok1 : ok1 lits (List.replicate 16 0, 0) = true := by decide +kernel
theorem lit_run0 : run0 litC 0 (List.replicate 16 0, 0) = (litN, ((288 : Nat) : Int)) := by decide +kernel
theorem lit_ok0 : ok0 litC 0 = true := by decide +kernel
theorem lit_ok2 : ok2 lits 0 288 (litN, List.replicate 288 0) = true := by decide +kernel
theorem litS_length : litS.length = 288 := by decide +kernel
theorem litS_121 : litS.getD 121 0 = 97 := by decide +kernel
theorem litS_0 : litS.getD 0 0 = 256 := by decide +kernel

def distC : List Int := [0, 0, 0, 0, 0, 32, 0, 0, 0, 0, 0, 0, 0, 0, 0, 0]
def distN : List Int := [0, 0, 0, 0, 0, 0, 32, 32, 32, 32, 32, 32, 32, 32, 32, 32]
theorem dist_run1 : run1 dists (List.replicate 16 0, 0) = (distC, 5) := by decide +kernel
theorem dist_ok1 : ok1 dists (List.replicate 16 0, 0) = true := by decide +kernel
theorem dist_run0 : run0 distC 0 (List.replicate 16 0, 0) = (distN, ((32 : Nat) : Int)) := by decide +kernel
theorem dist_ok0 : ok0 distC 0 = true := by decide +kernel
theorem dist_ok2 : ok2 dists 0 32 (distN, List.replicate 32 0) = true := by decide +kernel

def I3 : List UInt8 := [75, 4, 0]
theorem read1 : (rdS I3 litC 9 288 20 1 0 0 0 ⟨1, 9, 5⟩).map (fun x => (x.1, x.2.p, x.2.held, x.2.left)) = some (121, 2, 0, 5) := by decide +kernel
theorem read2 : (rdS I3 litC 9 288 20 1 0 0 0 ⟨2, 0, 5⟩).map (fun x => (x.1, x.2.p, x.2.held, x.2.left)) = some (0, 3, 0, 6) := by decide +kernel

theorem read1' : rdS I3 litC 9 288 20 1 0 0 0 ⟨1, 9, 5⟩ = some (121, ⟨2, 0, 5⟩) := by
  have := read1
  cases h : rdS I3 litC 9 288 20 1 0 0 0 ⟨1, 9, 5⟩ with
  | none => rw [h] at this; cases this
  | some x =>
    rw [h] at this
    obtain ⟨i, p, hd, l⟩ := x
    simp at this
    obtain ⟨rfl, rfl, rfl, rfl⟩ := this
    rfl
theorem read2' : rdS I3 litC 9 288 20 1 0 0 0 ⟨2, 0, 5⟩ = some (0, ⟨3, 0, 6⟩) := by
  have := read2
  cases h : rdS I3 litC 9 288 20 1 0 0 0 ⟨2, 0, 5⟩ with
  | none => rw [h] at this; cases this
  | some x =>
    rw [h] at this
    obtain ⟨i, p, hd, l⟩ := x
    simp at this
    obtain ⟨rfl, rfl, rfl, rfl⟩ := this
    rfl

/-- The fixed codes lie in memory. -/
def Coded (w : World) (cl : Nat) : Prop := w.heap[cl]? = some (CB litC (.slice (some ⟨cl + 3, 0, none⟩) 288 288) 9) ∧ w.heap[cl + 3]? = some (.cells (ints litS) 3 (0, 0))

theorem Coded.keep {w w' : World} {cl : Nat} {S : Nat → Prop} (h : Coded w cl) (f : Fr S w w') (h1 : ¬ S cl) (h2 : ¬ S (cl + 3)) : Coded w' cl :=
  ⟨(f.block cl (lt_of_heap h.1) h1).trans h.1, (f.block (cl + 3) (lt_of_heap h.2) h2).trans h.2⟩

theorem pairs_cells {w : World} {pb : Nat} {u v : Value} (h : w.heap[pb]? = some (.cells #[u, v] 106 (0, 0))) : w.cell? ⟨pb, 0, none⟩ = some u ∧ w.cell? ⟨pb, 1, none⟩ = some v :=
  ⟨cell_of_heap h 0, cell_of_heap h 1⟩

set_option maxHeartbeats 1000000 in
theorem symbols_a (B b o c cl cd pb : Nat) (lim : Int) (fx : Value) (w : World)
    (h : w.heap[B]? = some (RB (.slice (some ⟨b, o, none⟩) 3 c) 1 9 5 (.slice none 0 0) lim fx)) (hb : b < B) (hI : Lies w b o I3)
    (hp : w.heap[pb]? = some (.cells #[.pointer (some ⟨cl, 0, none⟩), .pointer (some ⟨cd, 0, none⟩)] 106 (0, 0))) (hC : Coded w cl) (hcl : B < cl) (hpb : B < pb) (hlim : 1 ≤ lim) (hlim2 : lim ≤ 60000) :
    Calls Tryd.prog 44 #[.pointer (some ⟨B, 0, none⟩), .pointer (some ⟨pb, 0, none⟩)] w fun r w' => r = .returned (.tuple #[]) ∧
      (∃ ov, w'.heap[B]? = some (RB (.slice (some ⟨b, o, none⟩) 3 c) 3 0 6 ov lim fx) ∧ w'.ownsRow (B + 1) 5 1 ov 1 (bv8 [97])) ∧ Fr (fun k => B ≤ k) w w' := by
  have HH : Hid _ := h; clear h
  have HP : Hid _ := hp; clear hp
  go_enter Tryd.func44, Tryd.ntmps44
  go_wp2_with fail
  go_loopw [4] (fun _ wr => Lies wr b o I3 ∧ Coded wr cl ∧ wr.heap[pb]? = some (.cells #[.pointer (some ⟨cl, 0, none⟩), .pointer (some ⟨cd, 0, none⟩)] 106 (0, 0)) ∧ Fr (fun k => B ≤ k) w wr ∧
    ((wr.heap[B]? = some (RB (.slice (some ⟨b, o, none⟩) 3 c) 1 9 5 (.slice none 0 0) lim fx)) ∨ (∃ ov, wr.heap[B]? = some (RB (.slice (some ⟨b, o, none⟩) 3 c) 2 0 5 ov lim fx) ∧ wr.ownsRow (B + 1) 5 1 ov 1 (bv8 [97])))) (fun _ wr => 3 - posOf B wr)
  case atStart => exact ⟨hI, hC, HP.out, Fr.refl _ _, Or.inl HH.out⟩
  case round =>
    obtain ⟨hIr, hCr, hpr, hfr, hcase⟩ := hrel
    obtain ⟨p0, p1⟩ := pairs_cells hpr
    have HPR : Hid _ := hpr; clear hpr
    rcases hcase with hh | ⟨ov, hh, hw⟩
    · have HR : Hid _ := hh; clear hh
      have hpos : posOf B wr = 1 := posOf_rb (p := 1) HR.out
      have HPO : Hid (posOf B wr = 1) := hpos; clear hpos
      go_wp2_with fail
      refine (symbol_any B b o c cl (cl + 3) 288 I3 litC litS 9 lim 20 121 ⟨1, 9, 5⟩ ⟨2, 0, 5⟩ (.slice none 0 0) fx wr HR.out (by decide) (by omega) hIr hCr.1 rfl hCr.2 litS_length (by omega) (by omega) (by omega) read1').mono ?_
      rintro e w1 ⟨rfl, k1, f1⟩
      rw [litS_121]
      have K1 : Hid _ := k1; clear k1
      go_wp2_with fail
      refine (put_ok B _ _ _ lim 97 0 _ (.slice none 0 0) fx [] w1 K1.out ⟨rfl, Or.inl ⟨rfl, rfl⟩⟩ (by omega) hlim2).mono ?_
      rintro e w2 ⟨rfl, ov, k2, o2, f2⟩
      have f2' : Fr (One B) w1 w2 := f2.mono fun k _ hk => by
        rcases hk with hk | hk
        · exact hk
        · cases hk
      have K2 : Hid _ := k2; clear k2
      go_wp2_with fail
      go_roundw
      case rel =>
        have ff := f1.trans f2'
        refine ⟨hIr.keep ff (by simp [One]; omega), hCr.keep ff (by simp [One]; omega) (by simp [One]; omega), ?_, hfr.trans (One.up ff), Or.inr ⟨ov, K2.out, by simpa [bv8] using o2⟩⟩
        exact (ff.block pb (lt_of_heap HPR.out) (by simp [One]; omega)).trans HPR.out
      case measure =>
        have := posOf_rb (p := 2) K2.out
        rw [HPO.out, this]
        omega
    · have HR : Hid _ := hh; clear hh
      go_wp2_with fail
      refine (symbol_any B b o c cl (cl + 3) 288 I3 litC litS 9 lim 20 0 ⟨2, 0, 5⟩ ⟨3, 0, 6⟩ ov fx wr HR.out (by decide) (by omega) hIr hCr.1 rfl hCr.2 litS_length (by omega) (by omega) (by omega) read2').mono ?_
      rintro e w1 ⟨rfl, k1, f1⟩
      rw [litS_0]
      have K1 : Hid _ := k1; clear k1
      go_wp2_with fail
      refine bodyPost_ret (results_none rfl _ _ _) rfl ?_
      exact ⟨rfl, ⟨ov, K1.out, own_one hw f1⟩, hfr.trans (One.up f1)⟩

set_option maxHeartbeats 1000000 in
theorem fixedPair_new (B : Nat) (bv ov : Value) (p held left lim : Int) (w : World)
    (h : w.heap[B]? = some (RB bv p held left ov lim (.pointer none))) :
    Calls Tryd.prog 42 #[.pointer (some ⟨B, 0, none⟩)] w fun r w' => ∃ cl cd pb, r = .returned (.pointer (some ⟨pb, 0, none⟩)) ∧ Coded w' cl ∧ w.heap.size ≤ cl ∧ w.heap.size ≤ pb ∧
      w'.heap[pb]? = some (.cells #[.pointer (some ⟨cl, 0, none⟩), .pointer (some ⟨cd, 0, none⟩)] 106 (0, 0)) ∧ w'.heap[B]? = some (RB bv p held left ov lim (.pointer (some ⟨pb, 0, none⟩))) ∧ Fr (One B) w w' := by
  obtain ⟨c0, c1, c2, c3, c4, c5, c6, hf⟩ := rb_cells h
  have hB := lt_of_heap h
  have HH : Hid _ := h; clear h
  go_enter Tryd.func42, Tryd.ntmps42
  go_wp2_with fail
  refine (fixedLiterals_any w).mono ?_
  rintro e w1 ⟨rfl, k1, b1⟩
  have s1 := lt_of_heap k1
  have K1 : Hid _ := k1; clear k1
  go_wp2_with fail
  refine (make_any w.heap.size 0 288 288 288 lits 0 0 0 0 0 0 0 24 152 112 0 0 0 0 0 0 9 litC litN litS w1 rfl lits_length (by omega) (IntsAt.of_heap K1.out) lit_run1 lit_ok1 lit_run0 lit_ok0 (by omega) rfl lit_ok2).mono ?_
  rintro e w2 ⟨rfl, k2, k2', b2⟩
  have s2 := lt_of_heap k2'
  have K2 : Coded w2 w1.heap.size := ⟨k2, k2'⟩
  clear k2 k2'
  go_wp2_with fail
  refine (fixedDistances_any w2).mono ?_
  rintro e w3 ⟨rfl, k3, b3⟩
  have s3 := lt_of_heap k3
  have K3 : Hid _ := k3; clear k3
  go_wp2_with fail
  refine (make_any w2.heap.size 0 32 32 32 dists 0 0 0 0 0 32 0 0 0 0 0 0 0 0 0 0 5 distC distN _ w3 rfl dists_length (by omega) (IntsAt.of_heap K3.out) dist_run1 dist_ok1 dist_run0 dist_ok0 (by omega) rfl dist_ok2).mono ?_
  rintro e w4 ⟨rfl, k4, k4', b4⟩
  clear k4 k4'
  have f4 : Below w.heap.size w w4 := ((b1.trans (b2.mono (by omega))).trans (b3.mono (by omega))).trans (b4.mono (by omega))
  have h4 : w4.heap[B]? = some (RB bv p held left ov lim (.pointer none)) := (f4.block B hB).trans HH.out
  obtain ⟨d0, d1, d2, d3, d4, d5, d6, df⟩ := rb_cells h4
  have H4 : Hid _ := h4; clear h4
  have s4 := f4.size
  have hB4 : B < w4.heap.size := by omega
  have s34 := b4.size
  go_wp2_with fail
  go_ret
  have fc : Fr (fun k => w2.heap.size ≤ k) w2 w4 := Fr.of_below (b3.trans (b4.mono (by omega)))
  have hC : Coded w4 w1.heap.size := K2.keep fc (by omega) (by omega)
  refine ⟨w1.heap.size, w3.heap.size, w4.heap.size, rfl, ?_, by omega, by omega, ?_, ?_, ?_⟩
  · exact hC.keep (((Fr.refl (One B) w4).setCell (p := ⟨B, 6, none⟩) rfl _).alloc _) (by simp [One]; omega) (by simp [One]; omega)
  · have e : (w4.setCell ⟨B, 6, none⟩ (.pointer (some ⟨w4.heap.size, 0, none⟩))).heap.size = w4.heap.size := by simp [World.setCell]
    have := heap_alloc_new (w4.setCell ⟨B, 6, none⟩ (.pointer (some ⟨w4.heap.size, 0, none⟩))) (.cells #[.pointer (some ⟨w1.heap.size, 0, none⟩), .pointer (some ⟨w3.heap.size, 0, none⟩)] 106)
    rw [e] at this
    exact this
  · have := heap_set H4.out 6 (.pointer (some ⟨w4.heap.size, 0, none⟩))
    exact (heap_alloc_old (by simpa [World.setCell] using hB4) _).trans (by simpa using this)
  · have : Fr (One B) w w4 := ⟨f4.os, f4.tape, f4.output, f4.size, fun k hk _ => f4.block k hk⟩
    exact (this.setCell (p := ⟨B, 6, none⟩) rfl _).alloc _

set_option maxHeartbeats 1000000 in
theorem block_a (B b o c : Nat) (lim : Int) (w : World)
    (h : w.heap[B]? = some (RB (.slice (some ⟨b, o, none⟩) 3 c) 1 9 5 (.slice none 0 0) lim (.pointer none))) (hb : b < B) (hI : Lies w b o I3) (hlim : 1 ≤ lim) (hlim2 : lim ≤ 60000) :
    Calls Tryd.prog 23 #[.pointer (some ⟨B, 0, none⟩), .int .i64 1] w fun r w' => r = .returned (.tuple #[]) ∧
      (∃ ov fx, w'.heap[B]? = some (RB (.slice (some ⟨b, o, none⟩) 3 c) 3 0 6 ov lim fx) ∧ w'.ownsRow (B + 1) 5 1 ov 1 (bv8 [97])) ∧ Fr (fun k => B ≤ k) w w' := by
  have hB := lt_of_heap h
  have HH : Hid _ := h; clear h
  go_enter Tryd.func23, Tryd.ntmps23
  go_wp2_with fail
  refine (fixedPair_new B _ _ _ _ _ _ w HH.out).mono ?_
  rintro e w1 ⟨cl, cd, pb, rfl, hC, h1, h2, h3, h4, h5⟩
  have H3 : Hid _ := h3; clear h3
  have H4 : Hid _ := h4; clear h4
  go_wp2_with fail
  refine (symbols_a B b o c cl cd pb lim _ w1 H4.out hb (hI.keep h5 (by simp [One]; omega)) H3.out hC (by omega) (by omega) hlim hlim2).mono ?_
  rintro e w2 ⟨rfl, ⟨ov, h6, h7⟩, h8⟩
  have H6 : Hid _ := h6; clear h6
  go_wp2_with fail
  go_end0
  exact ⟨rfl, ⟨ov, _, H6.out, h7⟩, (One.up h5).trans h8⟩

set_option maxHeartbeats 1000000 in
theorem blocks_a (B b o c : Nat) (lim : Int) (w : World)
    (h : w.heap[B]? = some (RB (.slice (some ⟨b, o, none⟩) 3 c) 0 0 0 (.slice none 0 0) lim (.pointer none))) (hb : b < B) (hI : Lies w b o I3) (hlim : 1 ≤ lim) (hlim2 : lim ≤ 60000) :
    Calls Tryd.prog 15 #[.pointer (some ⟨B, 0, none⟩)] w fun r w' => r = .returned (.tuple #[]) ∧
      (∃ ov fx, w'.heap[B]? = some (RB (.slice (some ⟨b, o, none⟩) 3 c) 3 0 6 ov lim fx) ∧ w'.ownsRow (B + 1) 5 1 ov 1 (bv8 [97])) ∧ Fr (fun k => B ≤ k) w w' := by
  have hB := lt_of_heap h
  have HH : Hid _ := h; clear h
  go_enter Tryd.func15, Tryd.ntmps15
  go_wp2_with fail
  go_loopw [2] (fun t wr => (t = .bool false ∧ wr = w) ∨ (t = .bool true ∧ posOf B wr = 3 ∧ (∃ ov fx, wr.heap[B]? = some (RB (.slice (some ⟨b, o, none⟩) 3 c) 3 0 6 ov lim fx) ∧ wr.ownsRow (B + 1) 5 1 ov 1 (bv8 [97])) ∧ Fr (fun k => B ≤ k) w wr)) (fun _ wr => 3 - posOf B wr)
  case atStart => exact Or.inl ⟨rfl, rfl⟩
  case round =>
    rcases hrel with ⟨rfl, rfl⟩ | ⟨rfl, hpos, ⟨ov, fx, hh, hw⟩, hfr⟩
    · have HPO : Hid (posOf B wr = 0) := posOf_rb (p := 0) HH.out
      go_wp2_with fail
      refine (bit_fresh B b o 3 c 0 0 lim 75 _ _ wr HH.out (by omega) (by decide) (by omega) (hI 0 (by decide)) (by omega) (by omega)).mono ?_
      rintro e w1 ⟨rfl, k1, f1⟩
      have K1 : Hid _ := k1; clear k1
      go_wp2_with fail
      refine (number_two B 5 1 37 lim _ _ _ w1 K1.out (by omega) (by omega) (by omega)).mono ?_
      rintro e w2 ⟨rfl, k2, f2⟩
      have K2 : Hid _ := k2; clear k2
      go_wp2_with fail
      refine (block_a B b o c lim w2 K2.out hb ((hI.keep f1 (by simp [One]; omega)).keep f2 (by simp [One]; omega)) hlim hlim2).mono ?_
      rintro e w3 ⟨rfl, ⟨ov, fx, k3, o3⟩, f3⟩
      have K3 : Hid _ := k3; clear k3
      have p3 := posOf_rb (p := 3) K3.out
      have P3 : Hid _ := p3; clear p3
      go_wp2_with fail
      go_roundw
      case rel => exact Or.inr ⟨rfl, P3.out, ⟨ov, fx, K3.out, o3⟩, (One.up (f1.trans f2)).trans f3⟩
      case measure => rw [HPO.out, P3.out]; omega
    · have H2 : Hid _ := hh; clear hh
      clear hpos
      go_wp2_with fail
      go_end0
      exact ⟨rfl, ⟨ov, fx, H2.out, hw⟩, hfr⟩

end Go.Proofs.YtdpobjgfnhjagaaDoor
