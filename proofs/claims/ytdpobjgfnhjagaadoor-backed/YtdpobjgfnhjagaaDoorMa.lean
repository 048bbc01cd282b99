import Derived.Test.YtdpobjgfnhjagaaDoorRows
import Derived.WalkKit
import Derived.WalkSpells
import Derived.WalkLawsBesides
import Derived.Test.YtdpobjgfnhjagaaDoorProg
namespace Go.Proofs.YtdpobjgfnhjagaaDoor
open Go.RowKit

/-- What giveUp panics with. -/
abbrev stop (e : Int) : Ending := .panicked [{ v := .iface 41 (.agg #[.int .i64 e]), recovered := false }]

/-- The reader's block. -/
abbrev RB (bv : Value) (p : Int) (held : Int) (left : Int) (ov : Value) (lim : Int) (fx : Value) : Obj :=
  .cells #[bv, .int .i64 p, .int .u8 held, .int .i64 left, ov, .int .i64 lim, fx] 47 (0, 0)

/-- All blocks that were there, but those of S, are as they were. -/
structure Fr (S : Nat → Prop) (w w' : World) : Prop where
  os : w'.os = w.os
  tape : w'.tape = w.tape
  output : w'.output = w.output
  size : w.heap.size ≤ w'.heap.size
  block : ∀ k, k < w.heap.size → ¬ S k → w'.heap[k]? = w.heap[k]?

theorem Fr.refl (S : Nat → Prop) (w : World) : Fr S w w := ⟨rfl, rfl, rfl, Nat.le_refl _, fun _ _ _ => rfl⟩

theorem Fr.trans {S : Nat → Prop} {a b c : World} (h : Fr S a b) (k : Fr S b c) : Fr S a c :=
  ⟨k.os.trans h.os, k.tape.trans h.tape, k.output.trans h.output, Nat.le_trans h.size k.size,
   fun i hi hs => (k.block i (Nat.lt_of_lt_of_le hi h.size) hs).trans (h.block i hi hs)⟩

theorem Fr.mono {S T : Nat → Prop} {a b : World} (h : Fr S a b) (hst : ∀ k, k < a.heap.size → S k → T k) : Fr T a b :=
  ⟨h.os, h.tape, h.output, h.size, fun i hi ht => h.block i hi fun hs => ht (hst i hi hs)⟩

theorem Fr.drew {S : Nat → Prop} {a w : World} (h : Fr S a w) : Fr S a w.drew := ⟨h.os, h.tape, h.output, h.size, h.block⟩

theorem Fr.alloc {S : Nat → Prop} {a w : World} (h : Fr S a w) (o : Obj) : Fr S a (w.alloc o) :=
  h.trans ⟨rfl, rfl, rfl, by simp, fun k hk _ => Below.heap_alloc _ _ _ (by omega)⟩

theorem Fr.setCell {S : Nat → Prop} {a w : World} (h : Fr S a w) {p : Addr} (hp : S p.block) (u : Value) : Fr S a (w.setCell p u) :=
  h.trans ⟨rfl, rfl, rfl, by simp [World.setCell], fun k _ hs => Below.heap_setCell _ _ _ _ (fun e => hs (e ▸ hp))⟩

/-- A store into a block that was not there yet. -/
theorem Fr.setNew {S : Nat → Prop} {a w : World} (h : Fr S a w) {p : Addr} (hp : a.heap.size ≤ p.block) (u : Value) : Fr S a (w.setCell p u) :=
  ⟨h.os, h.tape, h.output, by simpa [World.setCell] using h.size, fun k hk hs => (Below.heap_setCell _ _ _ _ (by omega)).trans (h.block k hk hs)⟩

theorem Fr.grown {S : Nat → Prop} {a w w' : World} {row : Option Nat} (h : Fr S a w) (hg : w.grownBy w' row) (hr : ∀ k, row = some k → k < a.heap.size → S k) : Fr S a w' :=
  ⟨hg.os.trans h.os, hg.tape.trans h.tape, hg.output.trans h.output, Nat.le_trans h.size hg.size, fun k hk hs =>
    (hg.block k (Nat.lt_of_lt_of_le hk h.size) (fun e => hs (hr k e.symm hk))).trans (h.block k hk hs)⟩

theorem Fr.below {B : Nat} {S : Nat → Prop} {a b : World} (h : Fr S a b) (hB : B ≤ a.heap.size) (hs : ∀ k, S k → B ≤ k) : Below B a b :=
  ⟨h.os, h.tape, h.output, h.size, fun k hk => h.block k (by omega) fun e => by have := hs k e; omega⟩

theorem Fr.of_below {B : Nat} {a b : World} (h : Below B a b) : Fr (fun k => B ≤ k) a b :=
  ⟨h.os, h.tape, h.output, h.size, fun k _ hs => h.block k (by omega)⟩

theorem Fr.cell {S : Nat → Prop} {w w' : World} (h : Fr S w w') {p : Addr} (hk : p.block < w.heap.size) (hp : ¬ S p.block) : w'.cell? p = w.cell? p :=
  World.cell?_of_block (w := w) (h.block p.block hk hp)

theorem lt_of_heap {w : World} {B : Nat} {o : Obj} (h : w.heap[B]? = some o) : B < w.heap.size := by
  by_cases hb : B < w.heap.size
  · exact hb
  · simp [Array.getElem?_eq_none (Nat.not_lt.1 hb)] at h

theorem heap_drew (w : World) : w.drew.heap = w.heap := rfl

theorem heap_set {w : World} {B : Nat} {arr : Array Value} {t : TypeId} {f : Nat × Nat} (h : w.heap[B]? = some (.cells arr t f)) (i : Nat) (v : Value) :
    (w.setCell ⟨B, i, none⟩ v).heap[B]? = some (.cells (arr.setIfInBounds i v) t f) := by
  simp [World.setCell, Array.getElem?_modify, h]

theorem heap_set_other {w : World} {B k : Nat} (hk : k ≠ B) (i : Nat) (v : Value) :
    (w.setCell ⟨B, i, none⟩ v).heap[k]? = w.heap[k]? := Below.heap_setCell _ _ _ _ hk

theorem heap_alloc_old {w : World} {k : Nat} (h : k < w.heap.size) (o : Obj) : (w.alloc o).heap[k]? = w.heap[k]? := Below.heap_alloc _ _ _ h

theorem heap_alloc_new (w : World) (o : Obj) : (w.alloc o).heap[w.heap.size]? = some o := by
  show (w.heap.push o)[w.heap.size]? = _
  simp

theorem cell_of_heap {w : World} {B : Nat} {arr : Array Value} {t : TypeId} {f : Nat × Nat} (h : w.heap[B]? = some (.cells arr t f)) (i : Nat) :
    w.cell? ⟨B, i, none⟩ = arr[i]? := by simp [World.cell?, h]

theorem free_of_heap {w : World} {B : Nat} {arr : Array Value} {t : TypeId} (h : w.heap[B]? = some (.cells arr t (0, 0))) (i : Nat) :
    w.frozen? ⟨B, i, none⟩ = false := by simp [World.frozen?, h]

theorem rb_cells {w : World} {B : Nat} {bv ov fx : Value} {p held left lim : Int} (h : w.heap[B]? = some (RB bv p held left ov lim fx)) :
    w.cell? ⟨B, 0, none⟩ = some bv ∧ w.cell? ⟨B, 1, none⟩ = some (.int .i64 p) ∧ w.cell? ⟨B, 2, none⟩ = some (.int .u8 held) ∧
    w.cell? ⟨B, 3, none⟩ = some (.int .i64 left) ∧ w.cell? ⟨B, 4, none⟩ = some ov ∧ w.cell? ⟨B, 5, none⟩ = some (.int .i64 lim) ∧
    w.cell? ⟨B, 6, none⟩ = some fx ∧ (∀ i, w.frozen? ⟨B, i, none⟩ = false) :=
  ⟨cell_of_heap h 0, cell_of_heap h 1, cell_of_heap h 2, cell_of_heap h 3, cell_of_heap h 4, cell_of_heap h 5, cell_of_heap h 6, free_of_heap h⟩

/-- One block. -/
abbrev One (B : Nat) : Nat → Prop := fun x => x = B

theorem land_one (n : Int) (h0 : 0 ≤ n) (h1 : n < 256) : bits BinOp.and IntKind.u8 n 1 = n % 2 := by
  have key : ∀ k : Fin 256, bits BinOp.and IntKind.u8 (k.val : Int) 1 = (k.val : Int) % 2 := by decide +kernel
  have := key ⟨n.toNat, by omega⟩
  simpa [Int.toNat_of_nonneg h0] using this

theorem or_i64_nat (a b : Nat) (ha : a < 4294967296) (hb : b < 4294967296) : bits .or .i64 (a : Int) (b : Int) = ((a ||| b : Nat) : Int) := by
  have hx : a ||| b < 2 ^ 32 := Nat.or_lt_two_pow (by omega) (by omega)
  have h1 : (BitVec.ofInt 64 (a : Int)).toNat = a := by
    rw [BitVec.ofInt_natCast, BitVec.toNat_ofNat]; exact Nat.mod_eq_of_lt (by omega)
  have h2 : (BitVec.ofInt 64 (b : Int)).toNat = b := by
    rw [BitVec.ofInt_natCast, BitVec.toNat_ofNat]; exact Nat.mod_eq_of_lt (by omega)
  show IntKind.i64.wrap ((BitVec.ofInt 64 (a : Int) ||| BitVec.ofInt 64 (b : Int)).toNat : Int) = _
  rw [BitVec.toNat_or, h1, h2, IntKind.wrap_i64]
  omega

theorem xor_i64_nat (a b : Nat) (ha : a < 4294967296) (hb : b < 4294967296) : bits .xor .i64 (a : Int) (b : Int) = ((a ^^^ b : Nat) : Int) := by
  have hx : a ^^^ b < 2 ^ 32 := Nat.xor_lt_two_pow (by omega) (by omega)
  have h1 : (BitVec.ofInt 64 (a : Int)).toNat = a := by
    rw [BitVec.ofInt_natCast, BitVec.toNat_ofNat]; exact Nat.mod_eq_of_lt (by omega)
  have h2 : (BitVec.ofInt 64 (b : Int)).toNat = b := by
    rw [BitVec.ofInt_natCast, BitVec.toNat_ofNat]; exact Nat.mod_eq_of_lt (by omega)
  show IntKind.i64.wrap ((BitVec.ofInt 64 (a : Int) ^^^ BitVec.ofInt 64 (b : Int)).toNat : Int) = _
  rw [BitVec.toNat_xor, h1, h2, IntKind.wrap_i64]
  omega

theorem or_add (m : Nat) (a b : Int) (h0 : 0 ≤ a) (h1 : a < 2 ^ m) (h2 : 0 ≤ b) (h3 : b * 2 ^ m < 4294967296) (hm : m ≤ 31) : bits .or .i64 a (b * 2 ^ m) = a + 2 ^ m * b := by
  obtain ⟨x, rfl⟩ := Int.eq_ofNat_of_zero_le h0
  obtain ⟨y, rfl⟩ := Int.eq_ofNat_of_zero_le h2
  have e1 : ((y : Int) * 2 ^ m) = ((y * 2 ^ m : Nat) : Int) := by simp
  have hx : x < 2 ^ m := by exact_mod_cast h1
  have hp : 2 ^ m ≤ 2 ^ 31 := Nat.pow_le_pow_right (by omega) hm
  rw [e1] at h3 ⊢
  have h4 : y * 2 ^ m < 4294967296 := by
    generalize y * 2 ^ m = z at h3
    omega
  rw [or_i64_nat x (y * 2 ^ m) (by omega) h4, Nat.or_comm, Nat.mul_comm y, ← Nat.two_pow_add_eq_or_of_lt hx]
  push_cast
  omega

theorem owns_keep {w w' : World} {base : Nat} {e : TypeId} {size : Nat} {v : Value} {n : Nat} {xs : List Value} (h : w.ownsRow base e size v n xs)
    (hk : ∀ g, v.ownBlock = some g → g < w.heap.size → w'.heap[g]? = w.heap[g]?) : w'.ownsRow base e size v n xs := by
  obtain ⟨h1, h2⟩ := h
  refine ⟨h1, ?_⟩
  rcases h2 with h2 | ⟨g, cap, cur, hv, hg, hh, r⟩
  · exact Or.inl h2
  · refine Or.inr ⟨g, cap, cur, hv, hg, ?_, r⟩
    rw [hk g (by rw [hv]; rfl) (lt_of_heap hh)]
    exact hh

theorem owns_block {w : World} {base : Nat} {e : TypeId} {size : Nat} {v : Value} {n : Nat} {xs : List Value} (h : w.ownsRow base e size v n xs) {g : Nat} (hg : v.ownBlock = some g) : base ≤ g ∧ g < w.heap.size := by
  rcases h.2 with ⟨h2, _⟩ | ⟨g', cap, cur, hv, hb, hh, _⟩
  · rw [h2] at hg; simp [Value.ownBlock] at hg
  · rw [hv] at hg
    simp [Value.ownBlock] at hg
    subst hg
    exact ⟨hb, lt_of_heap hh⟩

theorem ret_int {k : IntKind} {a b : Int} (h : a = b) : Ending.returned (.int k a) = .returned (.int k b) := by rw [h]

end Go.Proofs.YtdpobjgfnhjagaaDoor

namespace Go.Proofs.YtdpobjgfnhjagaaDoor
open Go.RowKit

set_option maxHeartbeats 400000 in
theorem giveUp_any (e : Int) (w : World) :
    Calls Tryd.prog 45 #[.int .i64 e] w fun r w' => r = stop e ∧ w' = w := by
  go_enter Tryd.func45, Tryd.ntmps45
  go_wp2
  exact ⟨rfl, rfl, rfl⟩

set_option maxHeartbeats 400000 in
theorem take_short (B : Nat) (ao : Option Addr) (l c : Nat) (held left lim : Int) (ov fx : Value) (w : World)
    (h : w.heap[B]? = some (RB (.slice ao l c) l held left ov lim fx)) :
    Calls Tryd.prog 40 #[.pointer (some ⟨B, 0, none⟩)] w fun r w' => r = stop 2 ∧ w' = w.drew := by
  obtain ⟨c0, c1, c2, c3, c4, c5, c6, hf⟩ := rb_cells h
  clear h
  go_enter Tryd.func40, Tryd.ntmps40
  go_wp2_with fail
  go_region
  go_wp2_with (go_at_call 45; refine (giveUp_any _ _).mono ?_; rintro e w' ⟨rfl, rfl⟩)
  exact ⟨rfl, rfl, rfl⟩

set_option maxHeartbeats 400000 in
theorem take_ok (B b o l c p : Nat) (held left lim x : Int) (ov fx : Value) (w : World)
    (h : w.heap[B]? = some (RB (.slice (some ⟨b, o, none⟩) l c) p held left ov lim fx)) (hp : p < l) (hl : l ≤ maxLen) (hb : b ≠ B)
    (hx : w.cell? ⟨b, o + p, none⟩ = some (.int .u8 x)) :
    Calls Tryd.prog 40 #[.pointer (some ⟨B, 0, none⟩)] w fun r w' => r = .returned (.int .u8 x) ∧
      w'.heap[B]? = some (RB (.slice (some ⟨b, o, none⟩) l c) (p + 1 : Nat) held left ov lim fx) ∧ Fr (One B) w w' := by
  obtain ⟨c0, c1, c2, c3, c4, c5, c6, hf⟩ := rb_cells h
  unfold maxLen at hl
  have hne : ((p : Int) == (l : Int)) = false := by simp; omega
  have H : Hid _ := h; clear h
  go_enter Tryd.func40, Tryd.ntmps40
  go_wp2_with fail
  go_region
  go_wp2_with fail
  go_region
  go_wp2_with fail
  go_ret
  refine ⟨rfl, ?_, ?_⟩
  · have := heap_set H.out 1 (.int .i64 ((p : Int) + 1))
    simpa [heap_drew] using this
  · exact (((Fr.refl (One B) w).setCell (p := ⟨B, 1, none⟩) rfl _).drew).drew

set_option maxHeartbeats 400000 in
theorem bit_more (B : Nat) (k p : Nat) (held lim : Int) (bv ov fx : Value) (w : World)
    (h : w.heap[B]? = some (RB bv p held (k + 1 : Nat) ov lim fx)) (h0 : 0 ≤ held) (h1 : held < 256) (hk : k < 8) :
    Calls Tryd.prog 22 #[.pointer (some ⟨B, 0, none⟩)] w fun r w' => r = .returned (.int .i64 (held % 2)) ∧
      w'.heap[B]? = some (RB bv p (held / 2) k ov lim fx) ∧ Fr (One B) w w' := by
  obtain ⟨c0, c1, c2, c3, c4, c5, c6, hf⟩ := rb_cells h
  have hne : (((k + 1 : Nat) : Int) == 0) = false := by simp; omega
  have H : Hid _ := h; clear h
  go_enter Tryd.func22, Tryd.ntmps22
  go_wp2_with fail
  go_ret
  refine ⟨ret_int ?_, ?_, ?_⟩
  · show wrap64 (bits BinOp.and IntKind.u8 held 1) = held % 2
    rw [land_one held h0 h1]
    exact IntWalk.wrap64_in _ (by omega)
  · have := heap_set (heap_set H.out 2 (.int .u8 (held / 2))) 3 (.int .i64 k)
    simpa [heap_drew] using this
  · exact ((Fr.refl (One B) w).setCell (p := ⟨B, 2, none⟩) rfl _).setCell (p := ⟨B, 3, none⟩) rfl _

set_option maxHeartbeats 400000 in
theorem bit_fresh (B b o l c p : Nat) (held lim x : Int) (ov fx : Value) (w : World)
    (h : w.heap[B]? = some (RB (.slice (some ⟨b, o, none⟩) l c) p held 0 ov lim fx)) (hp : p < l) (hl : l ≤ maxLen) (hb : b ≠ B)
    (hx : w.cell? ⟨b, o + p, none⟩ = some (.int .u8 x)) (h0 : 0 ≤ x) (h1 : x < 256) :
    Calls Tryd.prog 22 #[.pointer (some ⟨B, 0, none⟩)] w fun r w' => r = .returned (.int .i64 (x % 2)) ∧
      w'.heap[B]? = some (RB (.slice (some ⟨b, o, none⟩) l c) (p + 1 : Nat) (x / 2) 7 ov lim fx) ∧ Fr (One B) w w' := by
  obtain ⟨c0, c1, c2, c3, c4, c5, c6, hf⟩ := rb_cells h
  have H : Hid _ := h; clear h
  go_enter Tryd.func22, Tryd.ntmps22
  go_wp2_with fail
  refine (take_ok B b o l c p held 0 lim x ov fx w H.out hp hl hb hx).mono ?_
  rintro e w1 ⟨rfl, k1, f1⟩
  obtain ⟨d0, d1, d2, d3, d4, d5, d6, df⟩ := rb_cells k1
  have K : Hid _ := k1; clear k1
  go_wp2_with fail
  go_ret
  refine ⟨ret_int ?_, ?_, ?_⟩
  · show wrap64 (bits BinOp.and IntKind.u8 x 1) = x % 2
    rw [land_one x h0 h1]
    exact IntWalk.wrap64_in _ (by omega)
  · have := heap_set (heap_set (heap_set (heap_set K.out 2 (.int .u8 x)) 3 (.int .i64 8)) 2 (.int .u8 (x / 2))) 3 (.int .i64 7)
    simpa [heap_drew] using this
  · exact (((f1.setCell (p := ⟨B, 2, none⟩) rfl _).setCell (p := ⟨B, 3, none⟩) rfl _).setCell (p := ⟨B, 2, none⟩) rfl _).setCell (p := ⟨B, 3, none⟩) rfl _

set_option maxHeartbeats 400000 in
theorem bit_short (B : Nat) (ao : Option Addr) (l c : Nat) (held lim : Int) (ov fx : Value) (w : World)
    (h : w.heap[B]? = some (RB (.slice ao l c) l held 0 ov lim fx)) :
    Calls Tryd.prog 22 #[.pointer (some ⟨B, 0, none⟩)] w fun r w' => r = stop 2 ∧ w' = w.drew := by
  obtain ⟨c0, c1, c2, c3, c4, c5, c6, hf⟩ := rb_cells h
  have H : Hid _ := h; clear h
  go_enter Tryd.func22, Tryd.ntmps22
  go_wp2_with fail
  refine (take_short B ao l c held 0 lim ov fx w H.out).mono ?_
  rintro e w1 ⟨rfl, rfl⟩
  go_wp2_with fail
  exact ⟨rfl, rfl, rfl⟩

set_option maxHeartbeats 400000 in
theorem pass_any (B : Nat) (p held left lim : Int) (bv ov fx : Value) (w : World)
    (h : w.heap[B]? = some (RB bv p held left ov lim fx)) :
    Calls Tryd.prog 64 #[.pointer (some ⟨B, 0, none⟩)] w fun r w' => r = .returned (.tuple #[]) ∧
      w'.heap[B]? = some (RB bv p held 0 ov lim fx) ∧ Fr (One B) w w' := by
  obtain ⟨c0, c1, c2, c3, c4, c5, c6, hf⟩ := rb_cells h
  have H : Hid _ := h; clear h
  go_enter Tryd.func64, Tryd.ntmps64
  go_wp2_with fail
  go_end0
  refine ⟨rfl, ?_, ?_⟩
  · have := heap_set H.out 3 (.int .i64 0)
    simpa [heap_drew] using this
  · exact (Fr.refl (One B) w).setCell (p := ⟨B, 3, none⟩) rfl _

theorem ne_of_cell {w : World} {b k : Nat} {S : Nat → Prop} {w' : World} (f : Fr S w w') (hs : ¬ S b) {v : Value} (h : w.cell? ⟨b, k, none⟩ = some v) : w'.cell? ⟨b, k, none⟩ = some v := by
  have hb : b < w.heap.size := by
    by_cases hb : b < w.heap.size
    · exact hb
    · simp [World.cell?, Array.getElem?_eq_none (Nat.not_lt.1 hb)] at h
  rw [f.cell hb hs]; exact h

set_option maxHeartbeats 400000 in
theorem two_ok (B b o l c p : Nat) (held left lim x y : Int) (ov fx : Value) (w : World)
    (h : w.heap[B]? = some (RB (.slice (some ⟨b, o, none⟩) l c) p held left ov lim fx)) (hp : p + 1 < l) (hl : l ≤ maxLen) (hb : b ≠ B)
    (hx : w.cell? ⟨b, o + p, none⟩ = some (.int .u8 x)) (hy : w.cell? ⟨b, o + (p + 1), none⟩ = some (.int .u8 y)) (x0 : 0 ≤ x) (x1 : x < 256) (y0 : 0 ≤ y) (y1 : y < 256) :
    Calls Tryd.prog 65 #[.pointer (some ⟨B, 0, none⟩)] w fun r w' => r = .returned (.int .i64 (x + 256 * y)) ∧
      w'.heap[B]? = some (RB (.slice (some ⟨b, o, none⟩) l c) (p + 2 : Nat) held left ov lim fx) ∧ Fr (One B) w w' := by
  have H : Hid _ := h; clear h
  go_enter Tryd.func65, Tryd.ntmps65
  go_wp2_with fail
  refine (take_ok B b o l c p held left lim x ov fx w H.out (by omega) hl hb hx).mono ?_
  rintro e w1 ⟨rfl, k1, f1⟩
  have hy1 := ne_of_cell f1 hb hy
  have K : Hid _ := k1; clear k1
  go_wp2_with fail
  refine (take_ok B b o l c (p + 1) held left lim y ov fx w1 K.out hp hl hb hy1).mono ?_
  rintro e w2 ⟨rfl, k2, f2⟩
  have K2 : Hid _ := k2; clear k2
  go_wp2_with fail
  go_ret
  refine ⟨ret_int ?_, K2.out, f1.trans f2⟩
  exact or_add 8 x y x0 (by omega) y0 (by omega) (by omega)

set_option maxHeartbeats 400000 in
theorem number_two (B : Nat) (k p : Nat) (held lim : Int) (bv ov fx : Value) (w : World)
    (h : w.heap[B]? = some (RB bv p held (k + 2 : Nat) ov lim fx)) (h0 : 0 ≤ held) (h1 : held < 256) (hk : k < 7) :
    Calls Tryd.prog 24 #[.pointer (some ⟨B, 0, none⟩), .int .i64 2] w fun r w' => r = .returned (.int .i64 (held % 4)) ∧
      w'.heap[B]? = some (RB bv p (held / 4) k ov lim fx) ∧ Fr (One B) w w' := by
  have H : Hid _ := h; clear h
  go_enter Tryd.func24, Tryd.ntmps24
  go_wp2_with fail
  go_loopw [5, 8] (fun n i wr => ((i = .int .i64 0 ∧ n = .int .i64 0 ∧ wr.heap[B]? = some (RB bv p held (k + 2 : Nat) ov lim fx)) ∨ (i = .int .i64 1 ∧ n = .int .i64 (held % 2) ∧ wr.heap[B]? = some (RB bv p (held / 2) (k + 1 : Nat) ov lim fx)) ∨ (i = .int .i64 2 ∧ n = .int .i64 (held % 4) ∧ wr.heap[B]? = some (RB bv p (held / 4) k ov lim fx))) ∧ Fr (One B) w wr) (fun _ i _ => 2 - (intOf i).toNat)
  case atStart => exact ⟨Or.inl ⟨rfl, rfl, H.out⟩, Fr.refl _ _⟩
  case round =>
    obtain ⟨⟨rfl, rfl, hh⟩ | ⟨rfl, rfl, hh⟩ | ⟨rfl, rfl, hh⟩, hfr⟩ := hrel
    · have HH : Hid _ := hh; clear hh
      go_wp2_with fail
      refine (bit_more B (k + 1) p held lim bv ov fx wr HH.out h0 h1 (by omega)).mono ?_
      rintro e w1 ⟨rfl, k1, f1⟩
      have K1 : Hid _ := k1; clear k1
      go_wp2_with fail
      go_roundw
      case rel => 
        refine ⟨Or.inr (Or.inl ⟨rfl, ?_, K1.out⟩), hfr.trans f1⟩
        have e : bits BinOp.or IntKind.i64 0 (held % 2) = held % 2 := by
          have := or_add 0 0 (held % 2) (by omega) (by omega) (by omega) (by omega) (by omega)
          simpa using this
        rw [e]
      case measure => simp [intOf]
    · have HH : Hid _ := hh; clear hh
      go_wp2_with fail
      refine (bit_more B k p (held / 2) lim bv ov fx wr HH.out (by omega) (by omega) (by omega)).mono ?_
      rintro e w1 ⟨rfl, k1, f1⟩
      have K1 : Hid _ := k1; clear k1
      go_wp2_with fail
      go_roundw
      case rel => 
        refine ⟨Or.inr (Or.inr ⟨rfl, ?_, ?_⟩), hfr.trans f1⟩
        · have e : bits BinOp.or IntKind.i64 (held % 2) (held / 2 % 2 * 2) = held % 4 := by
            have := or_add 1 (held % 2) (held / 2 % 2) (by omega) (by omega) (by omega) (by omega) (by omega)
            rw [show (2 : Int) ^ 1 = 2 from rfl] at this
            rw [this]; omega
          rw [e]
        · have e : held / 2 / 2 = held / 4 := by omega
          rw [← e]; exact K1.out
      case measure => simp [intOf]
    · have HH : Hid _ := hh; clear hh
      go_wp2_with fail
      go_ret
      exact ⟨rfl, HH.out, hfr⟩

/-- append one byte -/
theorem info5 : (Tryd.prog.info? 5).map (fun i => (i.zero, i.size, i.bytes)) = some (some (.int .u8 0), 1, 1) := by kernel_rfl
theorem underlying25 : Tryd.prog.underlying 25 = some (.slice 5) := by kernel_rfl

set_option maxHeartbeats 400000 in
theorem put_limit (B : Nat) (p held left x : Int) (n : Nat) (bv ov fx : Value) (xs : List Value) (w : World) (base : Nat)
    (h : w.heap[B]? = some (RB bv p held left ov n fx)) (hown : w.ownsRow base 5 1 ov n xs) :
    Calls Tryd.prog 66 #[.pointer (some ⟨B, 0, none⟩), .int .u8 x] w fun r w' => r = stop 4 ∧ w' = w.drew := by
  obtain ⟨ao, cp, rfl⟩ : ∃ ao cp, ov = .slice ao n cp := by
    rcases hown.2 with ⟨h1, h2⟩ | ⟨g, cap, cur, h1, _⟩
    · exact ⟨none, 0, by rw [h1, h2]⟩
    · exact ⟨_, _, h1⟩
  clear hown
  obtain ⟨c0, c1, c2, c3, c4, c5, c6, hf⟩ := rb_cells h
  have H : Hid _ := h; clear h
  go_enter Tryd.func66, Tryd.ntmps66
  go_wp2_with fail
  go_region
  go_wp2_with (go_at_call 45; refine (giveUp_any _ _).mono ?_; rintro e w' ⟨rfl, rfl⟩)
  exact ⟨rfl, rfl, rfl⟩

set_option maxHeartbeats 800000 in
theorem put_ok (B : Nat) (p held left lim x : Int) (n : Nat) (bv ov fx : Value) (xs : List Value) (w : World)
    (h : w.heap[B]? = some (RB bv p held left ov lim fx)) (hown : w.ownsRow (B + 1) 5 1 ov n xs) (hn : (n : Int) < lim) (hlim : lim ≤ 60000) :
    Calls Tryd.prog 66 #[.pointer (some ⟨B, 0, none⟩), .int .u8 x] w fun r w' => r = .returned (.tuple #[]) ∧
      ∃ ov', w'.heap[B]? = some (RB bv p held left ov' lim fx) ∧ w'.ownsRow (B + 1) 5 1 ov' (n + 1) (xs ++ [.int .u8 x]) ∧ Fr (fun k => k = B ∨ ov.ownBlock = some k) w w' := by
  obtain ⟨ao, cp, rfl⟩ : ∃ ao cp, ov = .slice ao n cp := by
    rcases hown.2 with ⟨h1, h2⟩ | ⟨g, cap, cur, h1, _⟩
    · exact ⟨none, 0, by rw [h1, h2]⟩
    · exact ⟨_, _, h1⟩
  obtain ⟨i0, hi, hz0, hz1, hz2⟩ := info_parts info5
  obtain ⟨c0, c1, c2, c3, c4, c5, c6, hf⟩ := rb_cells h
  have hB := lt_of_heap h
  have hne : ((n : Int) == lim) = false := by simp; omega
  have H : Hid _ := h; clear h
  have HO : Hid _ := hown; clear hown
  go_enter Tryd.func66, Tryd.ntmps66
  go_wp2_with fail
  go_region
  go_wp2_with (at_builtin; refine wpList_append_own _ rfl (.tmp 19) (.tmp 21) 25 rfl (B + 1) 5 i0 (.int .u8 0) 1 1 underlying25 hi hz0 hz1 hz2 rfl (by decide) (.slice ao n cp) n xs rfl ?own ⟨w.heap.size, 0, none⟩ 1 1 [.int .u8 x] rfl rfl ?c1 ?c2 ?b1 ?b2 ?b3 ?grow)
  case own => exact owns_keep HO.out (fun g _ hg => heap_alloc_old hg _)
  case c1 => intro j u hj; match j, hj with | 0, hj => simp at hj; subst hj; simp [Addr.add]
  case c2 => intro u hu; simp at hu; subst hu; rfl
  case b1 => unfold maxLen; omega
  case b2 => omega
  case b3 => simp; omega
  case grow =>
    intro v' w' hown hgrow _
    obtain ⟨g, cap', rfl⟩ : ∃ g cap', v' = .slice (some ⟨g, 0, none⟩) (n + 1) cap' := by
      rcases hown.2 with ⟨_, h⟩ | ⟨g, cap', _, h, _⟩
      · omega
      · exact ⟨g, cap', h⟩
    have hBk : w'.heap[B]? = w.heap[B]? := by
      rw [hgrow.block B (by show B < (w.heap.push _).size; simp; omega) (fun e => by have := (owns_block HO.out e.symm).1; omega)]
      exact heap_alloc_old hB _
    have k1 := hBk.trans H.out
    obtain ⟨d0, d1, d2, d3, d4, d5, d6, df⟩ := rb_cells k1
    have K1 : Hid _ := k1; clear k1 hBk
    have HN : Hid _ := hown; clear hown
    have HG : Hid _ := hgrow; clear hgrow
    go_wp2_with fail
    go_end0
    have hfr : Fr (fun k => k = B ∨ (Value.slice ao n cp).ownBlock = some k) w w' :=
      (((Fr.refl _ w).alloc _).drew).grown HG.out (fun k hk _ => Or.inr hk)
    refine ⟨rfl, .slice (some ⟨g, 0, none⟩) (n + 1) cap', ?_, ?_, ?_⟩
    · have := heap_set K1.out 4 (.slice (some ⟨g, 0, none⟩) (n + 1) cap')
      simpa [heap_drew] using this
    · refine owns_keep HN.out (fun g' hg' _ => heap_set_other ?_ _ _)
      have := (owns_block HN.out hg').1
      omega
    · exact hfr.setCell (p := ⟨B, 4, none⟩) (Or.inl rfl) _

end Go.Proofs.YtdpobjgfnhjagaaDoor

namespace Go.Proofs.YtdpobjgfnhjagaaDoor
open Go.RowKit

set_option maxRecDepth 100000 in
set_option maxHeartbeats 4000000 in
theorem stream_walk (bo : Option Addr) (n bc lev : Nat) (w : World) (hn : n ≤ 30000) (hlev : lev ≤ 9)
    (S1 : Option Addr → Nat → Nat → World → Prop)
    (S2 : Option Addr → Nat → Nat → Option Addr → Nat → Nat → World → Prop)
    (S3 : Option Addr → Nat → Nat → Option Addr → Nat → Nat → Option Addr → Nat → Nat → World → Prop)
    (I : Nat → Nat → Option Addr → Nat → Nat → World → Prop)
    (J M2 : Nat → Nat → Option Addr → Nat → Nat → Option Addr → Nat → Nat → World → Prop)
    (M1 M3 : Nat → Nat → Option Addr → Nat → Nat → Option Addr → Nat → Nat → Option Addr → Nat → Nat → World → Prop)
    (Q : Value → World → Prop)
    (h16 : Calls Tryd.prog 16 #[.slice bo n bc] w fun e w1 => ∃ ao m c, e = .returned (.slice ao m c) ∧ S1 ao m c w1)
    (hq0 : ∀ ao m c w1, S1 ao m c w1 → lev = 0 → Q (.slice ao m c) w1)
    (h17 : ∀ ao m c w1, 0 < lev → S1 ao m c w1 → Calls Tryd.prog 17 #[.slice bo n bc] w1 fun e w2 => ∃ t1 n1 c1, e = .returned (.slice t1 n1 c1) ∧ S2 ao m c t1 n1 c1 w2)
    (h18 : ∀ ao m c t1 n1 c1 w2, 0 < lev → S2 ao m c t1 n1 c1 w2 → Calls Tryd.prog 18 #[.slice bo n bc, .int .i64 lev] w2 fun e w3 => ∃ t2 n2 c2, e = .returned (.slice t2 n2 c2) ∧ S3 ao m c t1 n1 c1 t2 n2 c2 w3)
    (hI0 : ∀ ao m c t1 n1 c1 t2 n2 c2 w3 W, S3 ao m c t1 n1 c1 t2 n2 c2 w3 → W = w3.alloc (.cells #[.slice t1 n1 c1, .slice t2 n2 c2] 49) → I w3.heap.size 0 ao m c W)
    (hJ : ∀ p k ao m c w4, k < 2 → I p k ao m c w4 → ∃ to tn tc, w4.cell? ⟨p, k, none⟩ = some (.slice to tn tc) ∧ J p k ao m c to tn tc w4)
    (h20 : ∀ p k ao m c to tn tc w4, k < 2 → J p k ao m c to tn tc w4 → Calls Tryd.prog 20 #[.slice to tn tc] w4 fun e w5 => ∃ fo fm fc, e = .returned (.slice fo fm fc) ∧ M1 p k ao m c to tn tc fo fm fc w5)
    (h19 : ∀ p k ao m c to tn tc fo fm fc w5, k < 2 → M1 p k ao m c to tn tc fo fm fc w5 → Calls Tryd.prog 19 #[.slice ao m c, .slice fo fm fc] w5 fun e w6 => ∃ ro rm rc, e = .returned (.slice ro rm rc) ∧ M2 p k ro rm rc to tn tc w6)
    (h21 : ∀ p k ao m c to tn tc w4, k < 2 → M2 p k ao m c to tn tc w4 → Calls Tryd.prog 21 #[.slice to tn tc] w4 fun e w5 => ∃ fo fm fc, e = .returned (.slice fo fm fc) ∧ M3 p k ao m c to tn tc fo fm fc w5)
    (h19b : ∀ p k ao m c to tn tc fo fm fc w5, k < 2 → M3 p k ao m c to tn tc fo fm fc w5 → Calls Tryd.prog 19 #[.slice ao m c, .slice fo fm fc] w5 fun e w6 => ∃ ro rm rc, e = .returned (.slice ro rm rc) ∧ I p (k + 1) ro rm rc w6)
    (hq : ∀ p ao m c w4, 0 < lev → I p 2 ao m c w4 → Q (.slice ao m c) w4) :
    Calls Tryd.prog 13 #[.slice bo n bc, .int .i64 (lev : Int)] w fun e w' => ∃ v, e = .returned (.tuple #[v, .int .i64 0]) ∧ Q v w' := by
  have hni : (n : Int) ≤ 30000 := by omega
  have hl0 : (0 : Int) ≤ (lev : Int) := by omega
  have hl9 : (lev : Int) ≤ 9 := by omega
  go_enter Tryd.func13, Tryd.ntmps13
  go_wp2_with fail
  refine h16.mono ?_
  rintro e w1 ⟨ao, m, c, rfl, s1⟩
  by_cases hz : lev = 0
  · have hzi : (lev : Int) = 0 := by omega
    go_wp2_with fail
    go_ret2
    exact ⟨_, rfl, hq0 _ _ _ _ s1 hz⟩
  · have hzi : ¬ ((lev : Int) = 0) := by omega
    have hp : 0 < lev := by omega
    go_wp2_with fail
    refine (h17 ao m c w1 hp s1).mono ?_
    rintro e w2 ⟨t1, n1, c1, rfl, s2⟩
    clear s1
    go_wp2_with fail
    refine (h18 ao m c t1 n1 c1 w2 hp s2).mono ?_
    rintro e w3 ⟨t2, n2, c2, rfl, s3⟩
    clear s2
    have i0 := hI0 _ _ _ _ _ _ _ _ _ w3 _ s3 rfl
    clear s3
    go_wp2_with fail
    go_loopw [6, 32] (fun sv kv wr => ∃ (k : Nat) (ro : Option Addr) (rm rc : Nat), k ≤ 2 ∧ kv = .int .i64 k ∧ sv = .slice ro rm rc ∧ I w3.heap.size k ro rm rc wr) (fun _ kv _ => 2 - (intOf kv).toNat)
    case atStart => exact ⟨0, ao, m, c, by omega, rfl, rfl, i0⟩
    case round =>
      obtain ⟨k, ro, rm, rc, hk, rfl, rfl, hI⟩ := hrel
      by_cases hlt : k < 2
      · have hki : (k : Int) < 2 := by omega
        obtain ⟨to, tn, tc, hc, hj⟩ := hJ _ _ _ _ _ _ hlt hI
        clear hI
        go_wp2_with fail
        refine (h20 _ _ _ _ _ _ _ _ _ hlt hj).mono ?_
        rintro e w5 ⟨fo, fm, fc, rfl, m1⟩
        clear hj hc
        go_wp2_with fail
        refine (h19 _ _ _ _ _ _ _ _ _ _ _ _ hlt m1).mono ?_
        rintro e w6 ⟨ro', rm', rc', rfl, m2⟩
        clear m1
        go_wp2_with fail
        refine (h21 _ _ _ _ _ _ _ _ _ hlt m2).mono ?_
        rintro e w7 ⟨fo', fm', fc', rfl, m3⟩
        clear m2
        go_wp2_with fail
        refine (h19b _ _ _ _ _ _ _ _ _ _ _ _ hlt m3).mono ?_
        rintro e w8 ⟨ro2, rm2, rc2, rfl, i1⟩
        clear m3
        go_wp2_with fail
        go_roundw
        case rel => exact ⟨k + 1, ro2, rm2, rc2, by omega, by congr 1, rfl, i1⟩
        case measure => simp only [intOf]; omega
      · obtain rfl : k = 2 := by omega
        go_wp2_with fail
        go_ret2
        exact ⟨_, rfl, hq _ _ _ _ _ hp hI⟩

theorem deflate_walk (a b : Value) (w : World) (Q : Value → World → Prop)
    (h : Calls Tryd.prog 13 #[a, b] w fun e w' => ∃ v, e = .returned (.tuple #[v, .int .i64 0]) ∧ Q v w') :
    Calls Tryd.prog 11 #[a, b] w fun e w' => ∃ v, e = .returned (.tuple #[v, .int .i64 0]) ∧ Q v w' := by
  go_enter Tryd.func11, Tryd.ntmps11
  go_wp2_with fail
  refine h.mono ?_
  rintro e w1 ⟨v, rfl, q⟩
  go_wp2_with fail
  go_ret2
  exact ⟨v, rfl, q⟩
end Go.Proofs.YtdpobjgfnhjagaaDoor

namespace Go.Proofs.YtdpobjgfnhjagaaDoor
open Go.RowKit

set_option maxRecDepth 100000 in
set_option maxHeartbeats 4000000 in
theorem dyn_walk (T : Value) (w : World)
    (P1 : Value → Value → World → Prop) (P2 : Value → Value → World → Prop)
    (P3 : Value → Option Addr → Nat → Nat → World → Prop) (P4 : Value → Option Addr → Nat → Nat → World → Prop)
    (P5 : Option Addr → Nat → Nat → Option Addr → Nat → Nat → World → Prop)
    (P6 P7 P8 : Option Addr → Nat → Nat → Option Addr → Nat → Nat → Nat → World → Prop)
    (P9 : Option Addr → Nat → Nat → Option Addr → Nat → Nat → Nat → Value → World → Prop)
    (PA : Option Addr → Nat → Nat → Option Addr → Nat → Nat → Nat → World → Prop)
    (PB : Option Addr → Nat → Nat → Option Addr → Nat → Nat → Nat → Value → Value → World → Prop)
    (PC : Option Addr → Nat → Nat → Option Addr → Nat → Nat → Nat → Value → Value → Value → Value → World → Prop)
    (PD : Nat → World → Prop) (Q : Value → World → Prop)
    (h1 : Calls Tryd.prog 35 #[T] w fun e w1 => ∃ a b, e = .returned (.tuple #[a, b]) ∧ P1 a b w1)
    (h2 : ∀ a b w1, P1 a b w1 → Calls Tryd.prog 37 #[a, .int .i64 15] w1 fun e w2 => ∃ l, e = .returned l ∧ P2 b l w2)
    (h3 : ∀ b l w2, P2 b l w2 → Calls Tryd.prog 36 #[l, .int .i64 257] w2 fun e w3 => ∃ lo ln lc, e = .returned (.slice lo ln lc) ∧ 257 ≤ ln ∧ ln ≤ 400 ∧ P3 b lo ln lc w3)
    (h4 : ∀ b lo ln lc w3, P3 b lo ln lc w3 → Calls Tryd.prog 37 #[b, .int .i64 15] w3 fun e w4 => ∃ d, e = .returned d ∧ P4 d lo ln lc w4)
    (h5 : ∀ d lo ln lc w4, P4 d lo ln lc w4 → Calls Tryd.prog 36 #[d, .int .i64 1] w4 fun e w5 => ∃ dO dn dc, e = .returned (.slice dO dn dc) ∧ 1 ≤ dn ∧ dn ≤ 400 ∧ P5 lo ln lc dO dn dc w5)
    (h6 : ∀ lo ln lc dO dn dc w5, P5 lo ln lc dO dn dc w5 → Calls Tryd.prog 25 #[.int .i64 2] w5 fun e w6 => ∃ B, e = .returned (.pointer (some ⟨B, 0, none⟩)) ∧ P6 lo ln lc dO dn dc B w6)
    (h7 : ∀ lo ln lc dO dn dc B w6, P6 lo ln lc dO dn dc B w6 → Calls Tryd.prog 27 #[.pointer (some ⟨B, 0, none⟩), .int .i64 ((ln : Int) - 257), .int .i64 5] w6 fun e w7 => e = .returned (.tuple #[]) ∧ P7 lo ln lc dO dn dc B w7)
    (h8 : ∀ lo ln lc dO dn dc B w7, P7 lo ln lc dO dn dc B w7 → Calls Tryd.prog 27 #[.pointer (some ⟨B, 0, none⟩), .int .i64 ((dn : Int) - 1), .int .i64 5] w7 fun e w8 => e = .returned (.tuple #[]) ∧ P8 lo ln lc dO dn dc B w8)
    (h9 : ∀ lo ln lc dO dn dc B w8 W, P8 lo ln lc dO dn dc B w8 → W = w8.alloc (.cells #[.slice lo ln lc, .slice dO dn dc] 36) → Calls Tryd.prog 39 #[.slice (some ⟨w8.heap.size, 0, none⟩) 2 2] W fun e w9 => ∃ v, e = .returned v ∧ P9 lo ln lc dO dn dc B v w9)
    (hA : ∀ lo ln lc dO dn dc B v w9, P9 lo ln lc dO dn dc B v w9 → Calls Tryd.prog 38 #[.pointer (some ⟨B, 0, none⟩), v] w9 fun e wa => e = .returned (.tuple #[]) ∧ PA lo ln lc dO dn dc B wa)
    (hB : ∀ lo ln lc dO dn dc B wa, PA lo ln lc dO dn dc B wa → Calls Tryd.prog 32 #[.slice lo ln lc] wa fun e wb => ∃ x y, e = .returned (.agg #[x, y]) ∧ PB lo ln lc dO dn dc B x y wb)
    (hC : ∀ lo ln lc dO dn dc B x y wb, PB lo ln lc dO dn dc B x y wb → Calls Tryd.prog 32 #[.slice dO dn dc] wb fun e wc => ∃ x' y', e = .returned (.agg #[x', y']) ∧ PC lo ln lc dO dn dc B x y x' y' wc)
    (hD : ∀ lo ln lc dO dn dc B x y x' y' wc, PC lo ln lc dO dn dc B x y x' y' wc → Calls Tryd.prog 31 #[.pointer (some ⟨B, 0, none⟩), T, .agg #[x, y, x', y']] wc fun e wd => e = .returned (.tuple #[]) ∧ PD B wd)
    (hE : ∀ B wd, PD B wd → ∃ v, wd.cell? ⟨B, 0, none⟩ = some v ∧ Q v wd) :
    Calls Tryd.prog 21 #[T] w fun e w' => ∃ v, e = .returned v ∧ Q v w' := by
  go_enter Tryd.func21, Tryd.ntmps21
  go_wp2_with fail
  refine h1.mono ?_
  rintro e w1 ⟨a, b, rfl, p1⟩
  go_wp2_with fail
  refine (h2 a b w1 p1).mono ?_
  rintro e w2 ⟨l, rfl, p2⟩
  clear p1
  go_wp2_with fail
  refine (h3 b l w2 p2).mono ?_
  rintro e w3 ⟨lo, ln, lc, rfl, hl1, hl2, p3⟩
  clear p2
  go_wp2_with fail
  refine (h4 b lo ln lc w3 p3).mono ?_
  rintro e w4 ⟨d, rfl, p4⟩
  clear p3
  go_wp2_with fail
  refine (h5 d lo ln lc w4 p4).mono ?_
  rintro e w5 ⟨dO, dn, dc, rfl, hd1, hd2, p5⟩
  clear p4
  go_wp2_with fail
  refine (h6 lo ln lc dO dn dc w5 p5).mono ?_
  rintro e w6 ⟨B, rfl, p6⟩
  clear p5
  have hw1 : IntKind.i64.wrap ((ln : Int) - 257) = (ln : Int) - 257 := by rw [IntKind.wrap_i64]; omega
  have hw2 : IntKind.i64.wrap ((dn : Int) - 1) = (dn : Int) - 1 := by rw [IntKind.wrap_i64]; omega
  go_wp2_with fail
  refine (h7 lo ln lc dO dn dc B w6 p6).mono ?_
  rintro e w7 ⟨rfl, p7⟩
  clear p6
  go_wp2_with fail
  refine (h8 lo ln lc dO dn dc B w7 p7).mono ?_
  rintro e w8 ⟨rfl, p8⟩
  clear p7
  go_wp2_with fail
  refine (h9 lo ln lc dO dn dc B w8 _ p8 rfl).mono ?_
  rintro e w9 ⟨v, rfl, p9⟩
  clear p8
  go_wp2_with fail
  refine (hA lo ln lc dO dn dc B v w9 p9).mono ?_
  rintro e wa ⟨rfl, pa⟩
  clear p9
  go_wp2_with fail
  refine (hB lo ln lc dO dn dc B wa pa).mono ?_
  rintro e wb ⟨x, y, rfl, pb⟩
  clear pa
  go_wp2_with fail
  refine (hC lo ln lc dO dn dc B x y wb pb).mono ?_
  rintro e wc ⟨x', y', rfl, pc⟩
  clear pb
  go_wp2_with fail
  refine (hD lo ln lc dO dn dc B x y x' y' wc pc).mono ?_
  rintro e wd ⟨rfl, pd⟩
  clear pc
  obtain ⟨v', c0, q⟩ := hE B wd pd
  clear pd
  go_wp2_with fail
  go_ret
  exact ⟨v', rfl, q⟩
end Go.Proofs.YtdpobjgfnhjagaaDoor

namespace Go.Proofs.YtdpobjgfnhjagaaDoor
open Go.RowKit

/-- Bytes as cells. -/
def bv8 (L : List UInt8) : List Value := L.map fun c => .int .u8 (c.toNat : Int)

theorem bv8_append (a b : List UInt8) : bv8 (a ++ b) = bv8 a ++ bv8 b := by simp [bv8]

/-- The input's bytes lie in block b from o on. -/
def Lies (w : World) (b o : Nat) (I : List UInt8) : Prop := ∀ i, i < I.length → w.cell? ⟨b, o + i, none⟩ = some (.int .u8 ((I.getD i 0).toNat : Int))

theorem Lies.keep {w w' : World} {b o : Nat} {I : List UInt8} {S : Nat → Prop} (h : Lies w b o I) (f : Fr S w w') (hs : ¬ S b) : Lies w' b o I :=
  fun i hi => ne_of_cell f hs (h i hi)

theorem take_snoc (I : List UInt8) (p j : Nat) (h : p + j < I.length) : (I.drop p).take (j + 1) = (I.drop p).take j ++ [I.getD (p + j) 0] := by
  have e : I.getD (p + j) 0 = I[p + j] := by simp [List.getD, h]
  rw [List.take_succ_eq_append_getElem (by simp; omega), e, List.getElem_drop]

theorem u8_lt (c : UInt8) : (0 : Int) ≤ (c.toNat : Int) ∧ (c.toNat : Int) < 256 := by
  have := c.toNat_lt
  omega

/-- The four bytes of a length, as far as they are there. -/
def Head (I : List UInt8) (p n : Nat) : Prop :=
  (p < I.length → (I.getD p 0).toNat = n % 256) ∧ (p + 1 < I.length → (I.getD (p + 1) 0).toNat = n / 256) ∧
  (p + 2 < I.length → (I.getD (p + 2) 0).toNat = 255 - n % 256) ∧ (p + 3 < I.length → (I.getD (p + 3) 0).toNat = 255 - n / 256)

theorem xor_len (n : Nat) (h : n ≤ 2000) : n ^^^ (65535 - n) = 65535 := by
  have key : ∀ k : Fin 2001, k.val ^^^ (65535 - k.val) = 65535 := by decide +kernel
  exact key ⟨n, by omega⟩

set_option maxHeartbeats 400000 in
theorem two_short (B b o c p : Nat) (held left lim : Int) (I : List UInt8) (ov fx : Value) (w : World)
    (h : w.heap[B]? = some (RB (.slice (some ⟨b, o, none⟩) I.length c) p held left ov lim fx)) (hp : p ≤ I.length) (hq : I.length < p + 2) (hl : I.length ≤ maxLen) (hb : b ≠ B) (hI : Lies w b o I) :
    Calls Tryd.prog 65 #[.pointer (some ⟨B, 0, none⟩)] w fun r w' => r = stop 2 ∧ Fr (One B) w w' := by
  have H : Hid _ := h; clear h
  by_cases h1 : p = I.length
  · subst h1
    go_enter Tryd.func65, Tryd.ntmps65
    go_wp2_with fail
    refine (take_short B _ I.length c held left lim ov fx w H.out).mono ?_
    rintro e w1 ⟨rfl, rfl⟩
    go_wp2_with fail
    exact ⟨rfl, rfl, (Fr.refl _ _).drew⟩
  · have h2 : p + 1 = I.length := by omega
    have H2 : Hid _ := h2
    have hx := hI p (by omega)
    have HI : Hid _ := hI; clear hI
    go_enter Tryd.func65, Tryd.ntmps65
    go_wp2_with fail
    refine (take_ok B b o I.length c p held left lim _ ov fx w H.out (by omega) hl hb hx).mono ?_
    rintro e w1 ⟨rfl, k1, f1⟩
    rw [h2] at k1
    have K : Hid _ := k1; clear k1 h2 hx
    go_wp2_with fail
    refine (take_short B _ I.length c held left lim ov fx w1 K.out).mono ?_
    rintro e w2 ⟨rfl, rfl⟩
    go_wp2_with fail
    exact ⟨rfl, rfl, f1.drew⟩

end Go.Proofs.YtdpobjgfnhjagaaDoor

namespace Go.Proofs.YtdpobjgfnhjagaaDoor
open Go.RowKit

/-- What reading a stored block's length and bytes comes to. -/
def Came (B b o c : Nat) (I : List UInt8) (_ov fx : Value) (lim : Int) (xs : List Value) (q m : Nat) (out : List UInt8) (w : World) (e : Ending) (w' : World) : Prop :=
  ((e = .returned (.tuple #[]) ∧ q ≤ I.length ∧ (m : Int) ≤ lim ∧ ∃ held ov', w'.heap[B]? = some (RB (.slice (some ⟨b, o, none⟩) I.length c) q held 0 ov' lim fx) ∧ 0 ≤ held ∧ held < 256 ∧ w'.ownsRow (B + 1) 5 1 ov' m (xs ++ bv8 out)) ∨
   (e = stop 2 ∧ I.length < q) ∨ (e = stop 4 ∧ lim < (m : Int))) ∧ Fr (fun k => B ≤ k) w w'

theorem One.up {B : Nat} {w w' : World} (f : Fr (One B) w w') : Fr (fun k => B ≤ k) w w' := f.mono fun k _ h => by simp [One] at h; omega

theorem own_up {B : Nat} {w w' : World} {ov : Value} {n : Nat} {xs : List Value} (ho : w.ownsRow (B + 1) 5 1 ov n xs) (f : Fr (fun k => k = B ∨ ov.ownBlock = some k) w w') : Fr (fun k => B ≤ k) w w' :=
  f.mono fun k _ h => by
    rcases h with h | h
    · omega
    · have := (owns_block ho h).1
      omega

theorem own_one {B : Nat} {w w' : World} {ov : Value} {n : Nat} {xs : List Value} (ho : w.ownsRow (B + 1) 5 1 ov n xs) (f : Fr (One B) w w') : w'.ownsRow (B + 1) 5 1 ov n xs :=
  owns_keep ho fun g hg hs => f.block g hs (by have := (owns_block ho hg).1; simp [One]; omega)

set_option maxHeartbeats 1000000 in
theorem stored_any (B b o c p n m : Nat) (held left lim : Int) (I : List UInt8) (ov fx : Value) (xs : List Value) (w : World)
    (h : w.heap[B]? = some (RB (.slice (some ⟨b, o, none⟩) I.length c) p held left ov lim fx)) (hh0 : 0 ≤ held) (hh1 : held < 256) (hp : p ≤ I.length) (hl : I.length ≤ maxLen) (hb : b < B) (hI : Lies w b o I)
    (hd : Head I p n) (hn : n ≤ 2000) (ho : w.ownsRow (B + 1) 5 1 ov m xs) (hm : (m : Int) ≤ lim) (hlim : lim ≤ 60000) :
    Calls Tryd.prog 41 #[.pointer (some ⟨B, 0, none⟩)] w (Came B b o c I ov fx lim xs (p + 4 + n) (m + n) ((I.drop (p + 4)).take n) w) := by
  have hbB : b ≠ B := by omega
  have H : Hid _ := h; clear h
  have HO : Hid _ := ho; clear ho
  go_enter Tryd.func41, Tryd.ntmps41
  go_wp2_with fail
  refine (pass_any B p held left lim _ ov fx w H.out).mono ?_
  rintro e w1 ⟨rfl, k1, f1⟩
  have K1 : Hid _ := k1; clear k1
  go_wp2_with fail
  by_cases s1 : I.length < p + 2
  · refine (two_short B b o c p held 0 lim I ov fx w1 K1.out hp s1 hl hbB (hI.keep f1 hbB)).mono ?_
    rintro e w2 ⟨rfl, f2⟩
    go_wp2_with fail
    exact ⟨rfl, Or.inr (Or.inl ⟨rfl, by omega⟩), One.up (f1.trans f2)⟩
  have I1 : Lies w1 b o I := hI.keep f1 hbB
  refine (two_ok B b o I.length c p held 0 lim _ _ ov fx w1 K1.out (by omega) hl hbB (I1 p (by omega)) (I1 (p + 1) (by omega)) (u8_lt _).1 (u8_lt _).2 (u8_lt _).1 (u8_lt _).2).mono ?_
  rintro e w2 ⟨rfl, k2, f2⟩
  have e1 : ((I.getD p 0).toNat : Int) + 256 * ((I.getD (p + 1) 0).toNat : Int) = (n : Int) := by
    rw [hd.1 (by omega), hd.2.1 (by omega)]
    omega
  rw [e1]
  have K2 : Hid _ := k2; clear k2 e1
  go_wp2_with fail
  by_cases s2 : I.length < p + 4
  · refine (two_short B b o c (p + 2) held 0 lim I ov fx w2 K2.out (by omega) (by omega) hl hbB (I1.keep f2 hbB)).mono ?_
    rintro e w3 ⟨rfl, f3⟩
    go_wp2_with fail
    exact ⟨rfl, Or.inr (Or.inl ⟨rfl, by omega⟩), One.up ((f1.trans f2).trans f3)⟩
  have I2 : Lies w2 b o I := I1.keep f2 hbB
  refine (two_ok B b o I.length c (p + 2) held 0 lim _ _ ov fx w2 K2.out (by omega) hl hbB (I2 (p + 2) (by omega)) (I2 (p + 2 + 1) (by omega)) (u8_lt _).1 (u8_lt _).2 (u8_lt _).1 (u8_lt _).2).mono ?_
  rintro e w3 ⟨rfl, k3, f3⟩
  have e1 : ((I.getD (p + 2) 0).toNat : Int) + 256 * ((I.getD (p + 2 + 1) 0).toNat : Int) = ((65535 - n : Nat) : Int) := by
    rw [hd.2.2.1 (by omega), hd.2.2.2 (by omega)]
    omega
  rw [e1]
  have I3 : Lies w3 b o I := I2.keep f3 hbB
  have K3 : Hid _ := k3; clear k3 e1 I2
  have hx : bits BinOp.xor IntKind.i64 (n : Int) ((65535 - n : Nat) : Int) = 65535 := by
    rw [xor_i64_nat n (65535 - n) (by omega) (by omega), xor_len n hn]; rfl
  go_wp2_with fail
  go_loopw [22] (fun i wr => ∃ j : Nat, j ≤ n ∧ i = .int .i64 j ∧ p + 4 + j ≤ I.length ∧ (m : Int) + j ≤ lim ∧ (∃ ov', wr.heap[B]? = some (RB (.slice (some ⟨b, o, none⟩) I.length c) (p + 4 + j : Nat) held 0 ov' lim fx) ∧ wr.ownsRow (B + 1) 5 1 ov' (m + j) (xs ++ bv8 ((I.drop (p + 4)).take j))) ∧ Lies wr b o I ∧ Fr (fun k => B ≤ k) w wr) (fun i _ => n - (intOf i).toNat)
  case atStart =>
    refine ⟨0, by omega, rfl, by omega, by omega, ⟨ov, ?_, ?_⟩, I3, One.up ((f1.trans f2).trans f3)⟩
    · exact K3.out
    · simpa [bv8] using own_one HO.out ((f1.trans f2).trans f3)
  case round =>
    obtain ⟨j, hj, rfl, hj1, hj2, ⟨ov', hh, hw⟩, hIr, hfr⟩ := hrel
    have HH : Hid _ := hh; clear hh
    have HW : Hid _ := hw; clear hw
    by_cases hjn : j < n
    · go_wp2_with fail
      by_cases s3 : p + 4 + j = I.length
      · have K4 := HH.out
        rw [s3] at K4
        refine (take_short B _ I.length c held 0 lim ov' fx wr K4).mono ?_
        rintro e w4 ⟨rfl, rfl⟩
        clear K4
        go_wp2_with fail
        exact ⟨rfl, Or.inr (Or.inl ⟨rfl, by omega⟩), hfr.drew⟩
      refine (take_ok B b o I.length c (p + 4 + j) held 0 lim _ ov' fx wr HH.out (by omega) hl hbB (hIr (p + 4 + j) (by omega))).mono ?_
      rintro e w4 ⟨rfl, k4, f4⟩
      have K4 : Hid _ := k4; clear k4
      have HW4 : Hid _ := own_one HW.out f4
      go_wp2_with fail
      by_cases s4 : ((m + j : Nat) : Int) = lim
      · have K5 := K4.out
        rw [← s4] at K5
        refine (put_limit B _ held 0 _ (m + j) _ ov' fx _ w4 (B + 1) K5 HW4.out).mono ?_
        rintro e w5 ⟨rfl, rfl⟩
        clear K5
        go_wp2_with fail
        exact ⟨rfl, Or.inr (Or.inr ⟨rfl, by omega⟩), (hfr.trans (One.up f4)).drew⟩
      refine (put_ok B _ held 0 lim _ (m + j) _ ov' fx _ w4 K4.out HW4.out (by omega) hlim).mono ?_
      rintro e w5 ⟨rfl, ov5, k5, o5, f5⟩
      have K5 : Hid _ := k5; clear k5
      go_wp2_with fail
      go_roundw
      case rel =>
        refine ⟨j + 1, by omega, by go_num, by omega, by omega, ⟨ov5, K5.out, ?_⟩, ?_, ?_⟩
        · rw [take_snoc I (p + 4) j (by omega), bv8_append, ← List.append_assoc]
          exact o5
        · exact (hIr.keep (One.up f4) (by omega)).keep (own_up HW4.out f5) (by omega)
        · exact (hfr.trans (One.up f4)).trans (own_up HW4.out f5)
      case measure => simp [intOf]; omega
    · have hjn' : j = n := by omega
      subst hjn'
      go_wp2_with fail
      go_end0
      exact ⟨Or.inl ⟨rfl, by omega, by omega, held, ov', HH.out, hh0, hh1, HW.out⟩, hfr⟩

end Go.Proofs.YtdpobjgfnhjagaaDoor

namespace Go.Proofs.YtdpobjgfnhjagaaDoor
open Go.RowKit

set_option maxHeartbeats 1000000 in
theorem block_stored (B b o c p n m : Nat) (held left lim : Int) (I : List UInt8) (ov fx : Value) (xs : List Value) (w : World)
    (h : w.heap[B]? = some (RB (.slice (some ⟨b, o, none⟩) I.length c) p held left ov lim fx)) (hh0 : 0 ≤ held) (hh1 : held < 256) (hp : p ≤ I.length) (hl : I.length ≤ maxLen) (hb : b < B) (hI : Lies w b o I)
    (hd : Head I p n) (hn : n ≤ 2000) (ho : w.ownsRow (B + 1) 5 1 ov m xs) (hm : (m : Int) ≤ lim) (hlim : lim ≤ 60000) :
    Calls Tryd.prog 23 #[.pointer (some ⟨B, 0, none⟩), .int .i64 0] w (Came B b o c I ov fx lim xs (p + 4 + n) (m + n) ((I.drop (p + 4)).take n) w) := by
  have H : Hid _ := h; clear h
  go_enter Tryd.func23, Tryd.ntmps23
  go_wp2_with fail
  refine (stored_any B b o c p n m held left lim I ov fx xs w H.out hh0 hh1 hp hl hb hI hd hn ho hm hlim).mono ?_
  rintro e w1 hc
  obtain ⟨(⟨rfl, g⟩ | ⟨rfl, g⟩ | ⟨rfl, g⟩), f⟩ := hc
  · go_wp2_with fail
    go_end0
    exact ⟨Or.inl ⟨rfl, g⟩, f⟩
  · go_wp2_with fail
    exact ⟨rfl, Or.inr (Or.inl ⟨rfl, g⟩), f⟩
  · go_wp2_with fail
    exact ⟨rfl, Or.inr (Or.inr ⟨rfl, g⟩), f⟩

/-- A stored block's first five bytes and its bytes; all blocks. -/
def headOf (last : Bool) (n : Nat) : List UInt8 := [if last then 1 else 0, UInt8.ofNat (n % 256), UInt8.ofNat (n / 256), UInt8.ofNat (255 - n % 256), UInt8.ofNat (255 - n / 256)]
def enc : List (List UInt8) → List UInt8
  | [] => []
  | x :: r => headOf r.isEmpty x.length ++ x ++ enc r

/-- From p on the input is as far as it goes the blocks' text. -/
def Reads (I : List UInt8) (p : Nat) (r : List (List UInt8)) : Prop := ∀ i, i < (enc r).length → p + i < I.length → I.getD (p + i) 0 = (enc r).getD i 0

theorem head_length (l : Bool) (n : Nat) : (headOf l n).length = 5 := rfl
theorem enc_cons_length (x : List UInt8) (r : List (List UInt8)) : (enc (x :: r)).length = 5 + x.length + (enc r).length := by
  simp [enc, head_length]; omega

theorem getD_app_left (a b : List UInt8) (i : Nat) (h : i < a.length) : (a ++ b).getD i 0 = a.getD i 0 := by
  simp [List.getD, List.getElem?_append_left h]
theorem getD_app_right (a b : List UInt8) (i : Nat) : (a ++ b).getD (a.length + i) 0 = b.getD i 0 := by
  simp [List.getD, List.getElem?_append_right]

theorem reads_first {I : List UInt8} {p : Nat} {x : List UInt8} {r : List (List UInt8)} (h : Reads I p (x :: r)) (hp : p < I.length) : (I.getD p 0).toNat = if r.isEmpty then 1 else 0 := by
  have := h 0 (by rw [enc_cons_length]; omega) (by omega)
  rw [Nat.add_zero] at this
  rw [this]
  simp only [enc, headOf]
  cases r <;> rfl

theorem reads_head {I : List UInt8} {p : Nat} {x : List UInt8} {r : List (List UInt8)} (h : Reads I p (x :: r)) (hx : x.length ≤ 2000) : Head I (p + 1) x.length := by
  have e : ∀ i, i < 5 → p + i < I.length → I.getD (p + i) 0 = (headOf r.isEmpty x.length).getD i 0 := by
    intro i hi hp
    rw [h i (by rw [enc_cons_length]; omega) hp]
    simp only [enc]
    rw [List.append_assoc]
    exact getD_app_left _ _ _ (by rw [head_length]; omega)
  refine ⟨fun hp => ?_, fun hp => ?_, fun hp => ?_, fun hp => ?_⟩
  · rw [e 1 (by omega) (by omega)]; simp [headOf]
  · have := e 2 (by omega) (by omega)
    rw [show p + 1 + 1 = p + 2 from rfl, this]; simp [headOf]; omega
  · have := e 3 (by omega) (by omega)
    rw [show p + 1 + 2 = p + 3 from rfl, this]; simp [headOf]; omega
  · have := e 4 (by omega) (by omega)
    rw [show p + 1 + 3 = p + 4 from rfl, this]; simp [headOf]; omega

theorem reads_body {I : List UInt8} {p : Nat} {x : List UInt8} {r : List (List UInt8)} (h : Reads I p (x :: r)) (hx : p + 5 + x.length ≤ I.length) : (I.drop (p + 5)).take x.length = x := by
  apply List.ext_getElem
  · simp; omega
  · intro i h1 h2
    simp at h1
    have := h (5 + i) (by rw [enc_cons_length]; omega) (by omega)
    rw [List.getElem_take, List.getElem_drop]
    have e1 : I.getD (p + (5 + i)) 0 = I[p + 5 + i]'(by omega) := by
      simp only [List.getD, ← Nat.add_assoc]
      rw [List.getElem?_eq_getElem (by omega)]; rfl
    rw [e1] at this
    rw [this]
    simp only [enc]
    rw [List.append_assoc]
    have e2 := getD_app_right (headOf r.isEmpty x.length) (x ++ enc r) i
    rw [head_length] at e2
    rw [e2, getD_app_left _ _ _ h2]
    simp [List.getD, h2]

theorem reads_rest {I : List UInt8} {p : Nat} {x : List UInt8} {r : List (List UInt8)} (h : Reads I p (x :: r)) : Reads I (p + 5 + x.length) r := by
  intro i hi hp
  have := h (5 + x.length + i) (by rw [enc_cons_length]; omega) (by omega)
  rw [show p + (5 + x.length + i) = p + 5 + x.length + i by omega] at this
  rw [this]
  simp only [enc]
  have e2 := getD_app_right (headOf r.isEmpty x.length ++ x) (enc r) i
  rw [List.length_append, head_length] at e2
  exact e2

end Go.Proofs.YtdpobjgfnhjagaaDoor

namespace Go.Proofs.YtdpobjgfnhjagaaDoor
open Go.RowKit

/-- Where the reader stands. -/
def posOf (B : Nat) (w : World) : Nat := match w.cell? ⟨B, 1, none⟩ with | some (.int _ q) => q.toNat | _ => 0

theorem posOf_rb {w : World} {B : Nat} {bv ov fx : Value} {held left lim : Int} {p : Nat} (h : w.heap[B]? = some (RB bv p held left ov lim fx)) : posOf B w = p := by
  simp [posOf, (rb_cells h).2.1]

set_option maxHeartbeats 1000000 in
theorem blocks_any (B b o c : Nat) (lim : Int) (I : List UInt8) (blks : List (List UInt8)) (fx : Value) (w : World)
    (h : w.heap[B]? = some (RB (.slice (some ⟨b, o, none⟩) I.length c) 0 0 0 (.slice none 0 0) lim fx)) (hl : I.length ≤ maxLen) (hb : b < B) (hI : Lies w b o I)
    (hne : blks ≠ []) (hr : Reads I 0 blks) (hx : ∀ x ∈ blks, x.length ≤ 2000) (hl0 : 0 ≤ lim) (hlim : lim ≤ 60000) :
    Calls Tryd.prog 15 #[.pointer (some ⟨B, 0, none⟩)] w (Came B b o c I (.slice none 0 0) fx lim [] (enc blks).length blks.flatten.length blks.flatten w) := by
  have hbB : b ≠ B := by omega
  have H : Hid _ := h; clear h
  go_enter Tryd.func15, Tryd.ntmps15
  go_wp2_with fail
  go_loopw [2] (fun t wr => ∃ (done r : List (List UInt8)) (q : Nat), Hid (blks = done ++ r) ∧ t = .bool r.isEmpty ∧ Hid (q + (enc r).length = (enc blks).length) ∧ Reads I q r ∧ q ≤ I.length ∧ ((done.flatten.length : Nat) : Int) ≤ lim ∧ (∃ held ov', wr.heap[B]? = some (RB (.slice (some ⟨b, o, none⟩) I.length c) q held 0 ov' lim fx) ∧ 0 ≤ held ∧ held < 256 ∧ wr.ownsRow (B + 1) 5 1 ov' done.flatten.length (bv8 done.flatten)) ∧ Lies wr b o I ∧ Fr (fun k => B ≤ k) w wr) (fun _ wr => (enc blks).length - posOf B wr)
  case atStart =>
    refine ⟨[], blks, 0, rfl, ?_, by simp [Hid], hr, by omega, by simpa using hl0, ⟨0, .slice none 0 0, H.out, by omega, by omega, ?_⟩, hI, Fr.refl _ _⟩
    · cases blks with
      | nil => exact absurd rfl hne
      | cons a r => rfl
    · exact ⟨rfl, Or.inl ⟨rfl, rfl⟩⟩
  case round =>
    obtain ⟨done, r, q, hB, rfl, hq, hR, hq1, hm, ⟨held, ov', hh, g0, g1, hw⟩, hIr, hfr⟩ := hrel
    have HH : Hid _ := hh; clear hh
    cases r with
    | nil =>
      go_wp2_with fail
      go_end0
      have e1 : blks = done := by simpa using hB.out
      have e2 : q = (enc blks).length := by have := hq.out; simpa [enc] using this
      subst e1
      subst e2
      exact ⟨Or.inl ⟨rfl, hq1, hm, held, ov', HH.out, g0, g1, by simpa using hw⟩, hfr⟩
    | cons x r =>
      have hxl : x.length ≤ 2000 := hx x (by rw [hB.out]; simp)
      have hle : q + 5 + x.length ≤ (enc blks).length := by have := hq.out; rw [enc_cons_length] at this; omega
      have hml : done.flatten.length + x.length ≤ blks.flatten.length := by rw [hB.out]; simp
      have hpos := posOf_rb HH.out
      have HP : Hid _ := hpos; clear hpos
      go_wp2_with fail
      by_cases s0 : q = I.length
      · have K1 := HH.out
        rw [s0] at K1
        refine (bit_short B _ I.length c held lim ov' fx wr K1).mono ?_
        rintro e w1 ⟨rfl, rfl⟩
        clear K1
        go_wp2_with fail
        exact ⟨rfl, Or.inr (Or.inl ⟨rfl, by omega⟩), hfr.drew⟩
      have hf := reads_first hR (by omega)
      refine (bit_fresh B b o I.length c q held lim _ ov' fx wr HH.out (by omega) hl hbB (hIr q (by omega)) (u8_lt _).1 (u8_lt _).2).mono ?_
      rintro e w1 ⟨rfl, k1, f1⟩
      generalize (I.getD q 0).toNat = y at hf k1
      have hz1 : (y : Int) / 2 = 0 := by split at hf <;> omega
      have hz2 : (y : Int) % 2 = y := by split at hf <;> omega
      rw [hz1] at k1
      rw [hz2]
      have HF : Hid _ := hf; clear hf
      have K1 : Hid _ := k1; clear k1 hz1 hz2
      go_wp2_with fail
      refine (number_two B 5 (q + 1) 0 lim _ ov' fx w1 K1.out (by omega) (by omega) (by omega)).mono ?_
      rintro e w2 ⟨rfl, k2, f2⟩
      have K2 : Hid _ := k2; clear k2
      have I2 : Lies w2 b o I := (hIr.keep f1 hbB).keep f2 hbB
      have o2 := own_one (own_one hw f1) f2
      go_wp2_with fail
      refine (block_stored B b o c (q + 1) x.length done.flatten.length (0 / 4) 5 lim I ov' fx (bv8 done.flatten) w2 K2.out (by decide) (by decide) (by omega) hl hb I2 (reads_head hR hxl) hxl o2 hm hlim).mono ?_
      rintro e w3 hc
      obtain ⟨(⟨rfl, t1, t2, held3, ov3, k3, t3, t4, o3⟩ | ⟨rfl, g⟩ | ⟨rfl, g⟩), f3⟩ := hc
      · have K3 : Hid _ := k3; clear k3
        have I3 : Lies w3 b o I := I2.keep f3 (by omega)
        go_wp2_with fail
        go_roundw
        case rel =>
          refine ⟨done ++ [x], r, q + 5 + x.length, ?_, ?_, ?_, reads_rest hR, by omega, ?_, ⟨held3, ov3, ?_, t3, t4, ?_⟩, I3, (hfr.trans (One.up (f1.trans f2))).trans f3⟩
          · show blks = _
            rw [hB.out]; simp
          · have := HF.out
            cases r with
            | nil => simp at this; subst this; rfl
            | cons a r => simp at this; subst this; rfl
          · have := hq.out
            rw [enc_cons_length] at this
            show _ = _
            omega
          · simpa using t2
          · have := K3.out
            rw [show q + 1 + 4 + x.length = q + 5 + x.length by omega] at this
            exact this
          · have e : (I.drop (q + 5)).take x.length = x := reads_body hR (by omega)
            rw [show q + 1 + 4 = q + 5 from rfl, e, ← bv8_append] at o3
            simpa using o3
        case measure =>
          have := posOf_rb K3.out
          rw [HP.out, this]
          omega
      · go_wp2_with fail
        exact ⟨rfl, Or.inr (Or.inl ⟨rfl, by omega⟩), (hfr.trans (One.up (f1.trans f2))).trans f3⟩
      · go_wp2_with fail
        exact ⟨rfl, Or.inr (Or.inr ⟨rfl, by omega⟩), (hfr.trans (One.up (f1.trans f2))).trans f3⟩

end Go.Proofs.YtdpobjgfnhjagaaDoor

namespace Go.Proofs.YtdpobjgfnhjagaaDoor
open Go.RowKit

theorem catch_idle (p0 p1 p2 : Addr) (w : World) :
    CallsD Tryd.prog 14 #[.pointer (some p0), .pointer (some p1), .pointer (some p2)] .returning w fun e u' w' => e = .returned (.tuple #[]) ∧ u' = .returning ∧ w' = w := by
  refine callsD_of_wpS Tryd.func14 rfl fun c₀ cs hu => ?_
  apply wpS_seq
  apply wpS_region
  simp [wpOpsS, go_sem, recoverD, hu, Tryd.ntmps14, Exit.thenS]
  refine wpS_of_wp ?_
  go_wp2_with fail
  cases c₀
  simp_all [bodyPostS, results, Tryd.results14]

theorem run_assert41 (v : Value) (w : World) : (Instr.typeAssert (.iface 41 v) 20 41 true).run Tryd.prog w = .ok (.tuple #[v, .bool true]) w := by
  simp [Instr.typeAssert, run_underlying Tryd.underlying41, go_sem, Result.andThen]

/-- A block of one cell. -/
abbrev Cell1 (w : World) (k : Nat) (v : Value) (t : TypeId) : Prop := w.heap[k]? = some (.cells #[v] t (0, 0))

set_option maxHeartbeats 400000 in
theorem catch_stop (k0 : Nat) (v0 v1 v2 : Value) (x : Int) (w : World) (h0 : Cell1 w k0 v0 25) (h1 : Cell1 w (k0 + 1) v1 3) (h2 : Cell1 w (k0 + 2) v2 27) :
    CallsD Tryd.prog 14 #[.pointer (some ⟨k0, 0, none⟩), .pointer (some ⟨k0 + 1, 0, none⟩), .pointer (some ⟨k0 + 2, 0, none⟩)] (.panicking [{ v := .iface 41 (.agg #[.int .i64 x]), recovered := false }]) w fun e u' w' =>
      e = .returned (.tuple #[]) ∧ u' = .panicking [{ v := .iface 41 (.agg #[.int .i64 x]), recovered := true }] ∧
      Cell1 w' k0 (.slice none 0 0) 25 ∧ Cell1 w' (k0 + 1) (.int .i64 0) 3 ∧ Cell1 w' (k0 + 2) (.int .i64 x) 27 ∧ Fr (fun k => k0 ≤ k) w w' := by
  have c0 := cell_of_one h0
  have c1 := cell_of_one h1
  have c2 := cell_of_one h2
  have f0 := free_of_one h0
  have f1 := free_of_one h1
  have f2 := free_of_one h2
  have b2 := lt_of_heap h2
  have H0 : Hid _ := h0; clear h0
  have H1 : Hid _ := h1; clear h1
  have H2 : Hid _ := h2; clear h2
  have hta := run_assert41
  refine callsD_of_wpS Tryd.func14 rfl fun c₀ cs hu => ?_
  apply wpS_seq
  apply wpS_region
  simp [wpOpsS, go_sem, recoverD, hu, Tryd.ntmps14, Exit.thenS]
  refine wpS_of_wp ?_
  rw [show (#[Value.pointer (some ⟨k0, 0, none⟩), Value.pointer (some ⟨k0 + 1, 0, none⟩), Value.pointer (some ⟨k0 + 2, 0, none⟩)] ++ (Array.replicate 11 undef).setIfInBounds 3 (Value.iface 41 (Value.agg #[Value.int IntKind.i64 x])) : Array Value) = #[Value.pointer (some ⟨k0, 0, none⟩), Value.pointer (some ⟨k0 + 1, 0, none⟩), Value.pointer (some ⟨k0 + 2, 0, none⟩), undef, undef, undef, Value.iface 41 (Value.agg #[Value.int IntKind.i64 x]), undef, undef, undef, undef, undef, undef, undef] from rfl]
  go_wp2_with fail
  have g0 : Cell1 (w.alloc (.cells #[.int .i64 x] 41)) k0 v0 25 := (heap_alloc_old (by omega) _).trans H0.out
  have g1 : Cell1 (w.alloc (.cells #[.int .i64 x] 41)) (k0 + 1) v1 3 := (heap_alloc_old (by omega) _).trans H1.out
  have g2 : Cell1 (w.alloc (.cells #[.int .i64 x] 41)) (k0 + 2) v2 27 := (heap_alloc_old b2 _).trans H2.out
  have g3 : Cell1 (w.alloc (.cells #[.int .i64 x] 41)) w.heap.size (.int .i64 x) 41 := heap_alloc_new _ _
  have hfr : Fr (fun k => k0 ≤ k) w (w.alloc (.cells #[.int .i64 x] 41)) := (Fr.refl _ _).alloc _
  clear c0 c1 c2 f0 f1 f2 H0 H1 H2
  generalize w.alloc (.cells #[.int .i64 x] 41) = w1 at *
  generalize w.heap.size = s at *
  have c0 := cell_of_one g0
  have c1 := cell_of_one g1
  have c2 := cell_of_one g2
  have c3 := cell_of_one g3
  have f0 := free_of_one g0
  have f1 := free_of_one g1
  have f2 := free_of_one g2
  have n0 : ¬ k0 = s := by omega
  have n1 : ¬ k0 + 1 = s := by omega
  have n2 : ¬ k0 + 2 = s := by omega
  have n0' : ¬ s = k0 := by omega
  have n1' : ¬ s = k0 + 1 := by omega
  have n2' : ¬ s = k0 + 2 := by omega
  have H0 : Hid _ := g0; clear g0
  have H1 : Hid _ := g1; clear g1
  have H2 : Hid _ := g2; clear g2
  clear g3
  go_region
  go_wp2_with fail
  refine ⟨rfl, .panicking _, rfl, .tuple #[], by simp [results, Tryd.results14], rfl, rfl, ?_⟩
  refine ⟨?_, ?_, ?_, ?_⟩
  · exact (heap_set_other (by omega) _ _).trans ((heap_set_other (by omega) _ _).trans (heap_set H0.out 0 _))
  · exact (heap_set_other (by omega) _ _).trans (heap_set ((heap_set_other (by omega) _ _).trans H1.out) 0 _)
  · exact heap_set (((heap_set_other (by omega) _ _).trans (heap_set_other (by omega) _ _)).trans H2.out) 0 _
  · exact (((hfr.setCell (p := ⟨k0, 0, none⟩) (Nat.le_refl _) _).setCell (p := ⟨k0 + 1, 0, none⟩) (Nat.le_add_right _ _) _).setCell (p := ⟨k0 + 2, 0, none⟩) (Nat.le_add_right _ _) _).drew

/-- The world in which Stream reads: its three results and the reader lie behind what was there. -/
abbrev W0 (w : World) (bv : Value) (lim : Int) : World :=
  (((w.alloc (.cells #[.slice none 0 0] 25)).alloc (.cells #[.int .i64 0] 3)).alloc (.cells #[.int .i64 0] 27)).alloc (RB bv 0 0 0 (.slice none 0 0) lim (.pointer none))

theorem W0_heap (w : World) (bv : Value) (lim : Int) : Cell1 (W0 w bv lim) w.heap.size (.slice none 0 0) 25 ∧ Cell1 (W0 w bv lim) (w.heap.size + 1) (.int .i64 0) 3 ∧ Cell1 (W0 w bv lim) (w.heap.size + 2) (.int .i64 0) 27 ∧
    (W0 w bv lim).heap[w.heap.size + 3]? = some (RB bv 0 0 0 (.slice none 0 0) lim (.pointer none)) ∧ (W0 w bv lim).heap.size = w.heap.size + 4 ∧ Below w.heap.size w (W0 w bv lim) := by
  have e1 : (w.alloc (.cells #[.slice none 0 0] 25)).heap.size = w.heap.size + 1 := by simp
  have e2 : ((w.alloc (.cells #[.slice none 0 0] 25)).alloc (.cells #[.int .i64 0] 3)).heap.size = w.heap.size + 2 := by simp
  have e3 : (((w.alloc (.cells #[.slice none 0 0] 25)).alloc (.cells #[.int .i64 0] 3)).alloc (.cells #[.int .i64 0] 27)).heap.size = w.heap.size + 3 := by simp
  refine ⟨?_, ?_, ?_, ?_, by simp, ?_⟩
  · exact (heap_alloc_old (by omega) _).trans ((heap_alloc_old (by omega) _).trans ((heap_alloc_old (by omega) _).trans (heap_alloc_new _ _)))
  · have := heap_alloc_new (w.alloc (.cells #[.slice none 0 0] 25)) (.cells #[.int .i64 0] 3)
    rw [e1] at this
    exact (heap_alloc_old (by omega) _).trans ((heap_alloc_old (by omega) _).trans this)
  · have := heap_alloc_new ((w.alloc (.cells #[.slice none 0 0] 25)).alloc (.cells #[.int .i64 0] 3)) (.cells #[.int .i64 0] 27)
    rw [e2] at this
    exact (heap_alloc_old (by omega) _).trans this
  · have := heap_alloc_new (((w.alloc (.cells #[.slice none 0 0] 25)).alloc (.cells #[.int .i64 0] 3)).alloc (.cells #[.int .i64 0] 27)) (RB bv 0 0 0 (.slice none 0 0) lim (.pointer none))
    rw [e3] at this
    exact this
  · exact ((((Below.refl _ _).alloc (Nat.le_refl _) _).alloc (by simp) _).alloc (by simp; omega) _).alloc (by simp; omega) _

set_option maxHeartbeats 1000000 in
theorem stream_of (ao : Option Addr) (l c : Nat) (lim : Int) (w : World) (hl0 : 0 ≤ lim) (hlim : lim ≤ 60000) (R : Ending → World → Prop)
    (hR : Calls Tryd.prog 15 #[.pointer (some ⟨w.heap.size + 3, 0, none⟩)] (W0 w (.slice ao l c) lim) R)
    (hE : ∀ e w1, R e w1 → Fr (fun k => w.heap.size + 3 ≤ k) (W0 w (.slice ao l c) lim) w1 ∧
      ((e = .returned (.tuple #[]) ∧ ∃ q held left fx oa on oc, w1.heap[w.heap.size + 3]? = some (RB (.slice ao l c) q held left (.slice oa on oc) lim fx)) ∨ ∃ x, e = stop x)) :
    Calls Tryd.prog 12 #[.slice ao l c, .int .i64 lim] w fun e w' => ∃ e1 w1, R e1 w1 ∧
      ((∃ q held left fx oa on oc, e1 = .returned (.tuple #[]) ∧ Fr (fun k => w.heap.size ≤ k ∧ k < w.heap.size + 3) w1 w' ∧ w1.heap[w.heap.size + 3]? = some (RB (.slice ao l c) q held left (.slice oa on oc) lim fx) ∧ e = .returned (.tuple #[.slice oa on oc, .int .i64 q, .int .i64 0])) ∨
       (∃ x, e1 = stop x ∧ Fr (fun k => w.heap.size ≤ k) w1 w' ∧ e = .returned (.tuple #[.slice none 0 0, .int .i64 0, .int .i64 x]))) := by
  have hmf : ∀ (fn : Fn) (first cap : Array Value) (w : World), (Instr.makeFunc fn first cap).run Tryd.prog w = .ok (.func fn first cap) w := fun _ _ _ _ => rfl
  have HR : Hid (Calls Tryd.prog 15 #[.pointer (some ⟨w.heap.size + 3, 0, none⟩)] (W0 w (.slice ao l c) lim) R) := hR; clear hR
  have HE : Hid (∀ e w1, R e w1 → Fr (fun k => w.heap.size + 3 ≤ k) (W0 w (.slice ao l c) lim) w1 ∧
      ((e = .returned (.tuple #[]) ∧ ∃ q held left fx oa on oc, w1.heap[w.heap.size + 3]? = some (RB (.slice ao l c) q held left (.slice oa on oc) lim fx)) ∨ ∃ x, e = stop x)) := hE; clear hE
  go_enter_defers Tryd.func12, Tryd.ntmps12
  go_wp2_with fail
  refine HR.out.mono ?_
  intro e w1 hr
  obtain ⟨hf, hc⟩ := HE.out e w1 hr
  obtain ⟨a0, a1, a2, a3, a4, a5⟩ := W0_heap w (.slice ao l c) lim
  have k0 : Cell1 w1 w.heap.size (.slice none 0 0) 25 := (hf.block _ (by omega) (by omega)).trans a0
  have k1 : Cell1 w1 (w.heap.size + 1) (.int .i64 0) 3 := (hf.block _ (by omega) (by omega)).trans a1
  have k2 : Cell1 w1 (w.heap.size + 2) (.int .i64 0) 27 := (hf.block _ (by omega) (by omega)).trans a2
  rcases hc with ⟨rfl, q, held, left, fx, oa, on, oc, hB⟩ | ⟨x, rfl⟩
  · obtain ⟨d0, d1, d2, d3, d4, d5, d6, df⟩ := rb_cells hB
    have c0 := cell_of_one k0
    have c1 := cell_of_one k1
    have c2 := cell_of_one k2
    have f0 := free_of_one k0
    have f1 := free_of_one k1
    have f2 := free_of_one k2
    have HB : Hid _ := hB; clear hB
    have HK0 : Hid _ := k0; clear k0
    have HK1 : Hid _ := k1; clear k1
    have HK2 : Hid _ := k2; clear k2
    clear a0 a1 a2 a3 a4 a5 hf HR HE
    go_wp2_with fail
    go_region
    go_wp2_with fail
    refine leaves_cons (f := 14) (args := #[.pointer (some ⟨w.heap.size, 0, none⟩), .pointer (some ⟨w.heap.size + 1, 0, none⟩), .pointer (some ⟨w.heap.size + 2, 0, none⟩)]) (by simp) (by simp [go_sem]) ?_
    refine (catch_idle _ _ _ _).mono ?_
    rintro e u' w'' ⟨rfl, rfl, hw⟩
    have g0 : Cell1 w'' w.heap.size (.slice oa on oc) 25 := by
      rw [hw]
      exact (heap_set_other (by omega) _ _).trans ((heap_set_other (by omega) _ _).trans (heap_set HK0.out 0 _))
    have g1 : Cell1 w'' (w.heap.size + 1) (.int .i64 q) 3 := by
      rw [hw]
      exact (heap_set_other (by omega) _ _).trans (heap_set ((heap_set_other (by omega) _ _).trans HK1.out) 0 _)
    have g2 : Cell1 w'' (w.heap.size + 2) (.int .i64 0) 27 := by
      rw [hw]
      exact heap_set (((heap_set_other (by omega) _ _).trans (heap_set_other (by omega) _ _)).trans HK2.out) 0 _
    have gf : Fr (fun k => w.heap.size ≤ k ∧ k < w.heap.size + 3) w1 w'' := by
      rw [hw]
      exact ((((Fr.refl _ w1).setCell (p := ⟨w.heap.size, 0, none⟩) (by simp) _).setCell (p := ⟨w.heap.size + 1, 0, none⟩) (by simp) _).setCell (p := ⟨w.heap.size + 1 + 1, 0, none⟩) ⟨Nat.le_add_right _ 2, Nat.lt_succ_self _⟩ _).drew
    clear hw
    have c0 := cell_of_one g0
    have c1 := cell_of_one g1
    have c2 := cell_of_one g2
    simp only [Leaves, settle]
    refine ⟨.tuple #[.slice oa on oc, .int .i64 q, .int .i64 0], ?_, _, w1, hr, Or.inl ⟨q, held, left, fx, oa, on, oc, rfl, gf, HB.out, rfl⟩⟩
    simp [results, Tryd.results12, go_sem, c0, c1, c2]
  · clear a0 a1 a2 a3 a4 a5 HR HE
    have HK0 : Hid _ := k0; clear k0
    have HK1 : Hid _ := k1; clear k1
    have HK2 : Hid _ := k2; clear k2
    go_wp2_with fail
    refine leaves_cons (f := 14) (args := #[.pointer (some ⟨w.heap.size, 0, none⟩), .pointer (some ⟨w.heap.size + 1, 0, none⟩), .pointer (some ⟨w.heap.size + 2, 0, none⟩)]) (by simp) (by simp [go_sem]) ?_
    refine (catch_stop w.heap.size _ _ _ x w1 HK0.out HK1.out HK2.out).mono ?_
    rintro e u' w'' ⟨rfl, rfl, g0, g1, g2, gf⟩
    have c0 := cell_of_one g0
    have c1 := cell_of_one g1
    have c2 := cell_of_one g2
    simp only [settle]
    refine ⟨.tuple #[.slice none 0 0, .int .i64 0, .int .i64 x], ?_, _, w1, hr, Or.inr ⟨x, rfl, gf, rfl⟩⟩
    simp [results, Tryd.results12, go_sem, c0, c1, c2]

/-- Stream's answer is this; nothing that was there has turned. -/
def Answer (w : World) (out : List UInt8) (used : Nat) (e : Ending) (w' : World) : Prop :=
  ∃ ov, e = .returned (.tuple #[ov, .int .i64 used, .int .i64 0]) ∧ w'.ownsRow w.heap.size 5 1 ov out.length (bv8 out) ∧ Below w.heap.size w w'

def Refused (w : World) (x : Int) (e : Ending) (w' : World) : Prop :=
  e = .returned (.tuple #[.slice none 0 0, .int .i64 0, .int .i64 x]) ∧ Below w.heap.size w w'

/-- Of stored blocks: read, too short, or too many. -/
def Told (w : World) (lim : Int) (I : List UInt8) (blks : List (List UInt8)) (e : Ending) (w' : World) : Prop :=
  ((enc blks).length ≤ I.length ∧ (blks.flatten.length : Int) ≤ lim ∧ Answer w blks.flatten (enc blks).length e w') ∨
  (I.length < (enc blks).length ∧ Refused w 2 e w') ∨ (lim < (blks.flatten.length : Int) ∧ Refused w 4 e w')

theorem owns_slice {w : World} {base : Nat} {e : TypeId} {size : Nat} {v : Value} {n : Nat} {xs : List Value} (h : w.ownsRow base e size v n xs) : ∃ ao cp, v = .slice ao n cp := by
  rcases h.2 with ⟨h1, h2⟩ | ⟨g, cap, cur, h1, _⟩
  · exact ⟨none, 0, by rw [h1, h2]⟩
  · exact ⟨_, _, h1⟩

theorem owns_base {w : World} {base base' : Nat} {e : TypeId} {size : Nat} {v : Value} {n : Nat} {xs : List Value} (h : w.ownsRow base e size v n xs) (hb : base' ≤ base) : w.ownsRow base' e size v n xs := by
  obtain ⟨h1, h2⟩ := h
  refine ⟨h1, ?_⟩
  rcases h2 with h2 | ⟨g, cap, cur, hv, hg, r⟩
  · exact Or.inl h2
  · exact Or.inr ⟨g, cap, cur, hv, Nat.le_trans hb hg, r⟩

theorem stream_any (b o c : Nat) (lim : Int) (I : List UInt8) (blks : List (List UInt8)) (w : World)
    (hl : I.length ≤ maxLen) (hb : b < w.heap.size) (hI : Lies w b o I)
    (hne : blks ≠ []) (hr : Reads I 0 blks) (hx : ∀ x ∈ blks, x.length ≤ 2000) (hl0 : 0 ≤ lim) (hlim : lim ≤ 60000) :
    Calls Tryd.prog 12 #[.slice (some ⟨b, o, none⟩) I.length c, .int .i64 lim] w (Told w lim I blks) := by
  obtain ⟨a0, a1, a2, a3, a4, a5⟩ := W0_heap w (.slice (some ⟨b, o, none⟩) I.length c) lim
  have hI0 : Lies (W0 w (.slice (some ⟨b, o, none⟩) I.length c) lim) b o I := hI.keep (Fr.of_below a5) (by omega)
  have hB := blocks_any (w.heap.size + 3) b o c lim I blks (.pointer none) (W0 w (.slice (some ⟨b, o, none⟩) I.length c) lim) a3 hl (by omega) hI0 hne hr hx hl0 hlim
  refine (stream_of (some ⟨b, o, none⟩) I.length c lim w hl0 hlim _ hB ?_).mono ?_
  · intro e w1 h
    refine ⟨h.2, ?_⟩
    rcases h.1 with ⟨h1, _, _, held, ov, h2, _, _, h3⟩ | ⟨h1, _⟩ | ⟨h1, _⟩
    · obtain ⟨ao, cp, rfl⟩ := owns_slice h3
      exact Or.inl ⟨h1, _, _, _, _, _, _, _, h2⟩
    · exact Or.inr ⟨_, h1⟩
    · exact Or.inr ⟨_, h1⟩
  · rintro e w' ⟨e1, w1, h, hc⟩
    obtain ⟨hcase, hf⟩ := h
    have hbel : Below w.heap.size w w1 := a5.trans (hf.below (by omega) (by intro k hk; omega))
    rcases hc with ⟨q, held, left, fx, oa, on, oc, rfl, f, hB2, rfl⟩ | ⟨x, rfl, f, rfl⟩
    · have hbel' : Below w.heap.size w w' := hbel.trans (f.below hbel.size (by intro k hk; omega))
      rcases hcase with ⟨_, h2, h3, held', ov, h4, _, _, h5⟩ | ⟨h1, _⟩ | ⟨h1, _⟩
      · rw [hB2] at h4
        obtain ⟨ao, cp, rfl⟩ := owns_slice h5
        simp [-List.length_flatten] at h4
        obtain ⟨rfl, rfl, rfl, ⟨rfl, rfl, rfl⟩, rfl⟩ := h4
        refine Or.inl ⟨h2, h3, _, rfl, ?_, hbel'⟩
        simp only [List.nil_append] at h5

        have h6 := owns_keep (w' := w') h5 fun g hg hs => f.block g hs (by have := (owns_block h5 hg).1; omega)
        exact owns_base (base' := w.heap.size) h6 (by omega)
      · cases h1
      · cases h1
    · have hbel' : Below w.heap.size w w' := hbel.trans (f.below hbel.size (by intro k hk; omega))
      rcases hcase with ⟨h1, _⟩ | ⟨h1, h2⟩ | ⟨h1, h2⟩
      · cases h1
      · simp [stop] at h1
        subst h1
        exact Or.inr (Or.inl ⟨h2, rfl, hbel'⟩)
      · simp [stop] at h1
        subst h1
        exact Or.inr (Or.inr ⟨h2, rfl, hbel'⟩)

set_option maxHeartbeats 400000 in
/-- spool.Inflate hands Stream's answer on. -/
theorem inflate_of (bv : Value) (lim : Int) (w : World) (R : Ending → World → Prop) (h : Calls Tryd.prog 12 #[bv, .int .i64 lim] w R)
    (hR : ∀ e w', R e w' → ∃ a b c, e = .returned (.tuple #[a, b, c])) : Calls Tryd.prog 8 #[bv, .int .i64 lim] w R := by
  have H : Hid (Calls Tryd.prog 12 #[bv, .int .i64 lim] w R) := h; clear h
  have HR : Hid (∀ e w', R e w' → ∃ a b c, e = .returned (.tuple #[a, b, c])) := hR; clear hR
  go_enter Tryd.func8, Tryd.ntmps8
  go_wp2_with fail
  refine H.out.mono ?_
  intro e w' h
  obtain ⟨a, b, c, rfl⟩ := HR.out e w' h
  go_wp2_with fail
  go_ret3
  exact h

end Go.Proofs.YtdpobjgfnhjagaaDoor

namespace Go.Proofs.YtdpobjgfnhjagaaDoor
open Go.RowKit

theorem info3 : (Tryd.prog.info? 3).map (fun i => (i.zero, i.size, i.bytes)) = some (some (.int .i64 0), 1, 8) := by kernel_rfl
theorem underlying36 : Tryd.prog.underlying 36 = some (.slice 3) := by kernel_rfl

/-- Numbers as cells. -/
abbrev ints (L : List Int) : Array Value := (L.map (Value.int .i64)).toArray

theorem owns_full {w : World} {base e g n : Nat} {xs : List Value} (h : w.ownsRow base e 1 (.slice (some ⟨g, 0, none⟩) n n) n xs) : w.heap[g]? = some (.cells xs.toArray e (0, 0)) := by
  rcases h.2 with ⟨h1, _⟩ | ⟨g', cap, cur, hv, _, hh, _, _, hs, ht⟩
  · cases h1
  · simp at hv
    obtain ⟨rfl, rfl⟩ := hv
    rw [hh]
    have : cur.toList = xs := by
      rw [← ht, List.take_of_length_le]
      simp; omega
    rw [← this]

theorem cell_ints {w : World} {g : Nat} {L : List Int} {t : TypeId} (h : w.heap[g]? = some (.cells (ints L) t (0, 0))) (i : Nat) (hi : i < L.length) : w.cell? ⟨g, i, none⟩ = some (.int .i64 (L.getD i 0)) := by
  rw [cell_of_heap h]
  simp [List.getD, hi]

theorem set_ints {w : World} {g : Nat} {L : List Int} {t : TypeId} (h : w.heap[g]? = some (.cells (ints L) t (0, 0))) (i : Nat) (v : Int) : (w.setCell ⟨g, i, none⟩ (.int .i64 v)).heap[g]? = some (.cells (ints (L.set i v)) t (0, 0)) := by
  rw [heap_set h]
  simp

/-- The fixed codes' lengths. -/
def lits : List Nat := (List.range 288).map fun i => if i < 144 then 8 else if i < 256 then 9 else if i < 280 then 7 else 8
def dists : List Nat := (List.range 32).map fun _ => 5

/-- The first k of them, noughts behind. -/
def part (L : List Nat) (k : Nat) : List Int := (List.range L.length).map fun i => if i < k then (L.getD i 0 : Int) else 0

theorem part_length (L : List Nat) (k : Nat) : (part L k).length = L.length := by simp [part]
theorem part_set (L : List Nat) (k : Nat) (_hk : k < L.length) : (part L k).set k (L.getD k 0 : Int) = part L (k + 1) := by
  apply List.ext_getElem
  · simp [part]
  · intro i h1 h2
    simp [part] at h2
    simp only [part, List.getElem_set, List.getElem_map, List.getElem_range]
    by_cases e : k = i
    · subst e; simp
    · simp only [e, if_false]
      by_cases hi : i < k
      · rw [if_pos hi, if_pos (by omega)]
      · rw [if_neg hi, if_neg (by omega)]
def ni (L : List Nat) : List Int := L.map Int.ofNat
theorem part_all (L : List Nat) : part L L.length = ni L := by
  apply List.ext_getElem
  · simp [part, ni]
  · intro i h1 h2
    simp [ni] at h2
    simp [part, ni, h2]
theorem lits_length : lits.length = 288 := by simp [lits]
theorem dists_length : dists.length = 32 := by simp [dists]
theorem made_part (L : List Nat) (n : Nat) (hn : L.length = n) : (madeCells #[Value.int .i64 0] n).toList.toArray = ints (part L 0) := by
  subst hn
  apply Array.ext
  · simp [madeCells, part]
  · intro i h1 h2
    simp [madeCells, part, Nat.mod_one]

set_option maxRecDepth 100000 in
set_option maxHeartbeats 1000000 in
theorem fixedDistances_any (w : World) :
    Calls Tryd.prog 34 #[] w fun e w' => e = .returned (.slice (some ⟨w.heap.size, 0, none⟩) 32 32) ∧ w'.heap[w.heap.size]? = some (.cells (ints (ni dists)) 3 (0, 0)) ∧ Below w.heap.size w w' := by
  obtain ⟨i0, hi, hz0, hz1, hz2⟩ := info_parts info3
  go_enter Tryd.func34, Tryd.ntmps34
  go_wp2_with (at_make; refine wpList_make_full _ rfl _ _ 36 rfl w.heap.size 3 i0 (.int .i64 0) 1 underlying36 hi hz0 hz1 .i64 .i64 32 32 32 rfl rfl rfl rfl ?b1 ?b2 ?b3 ?go)
  case b1 => rw [hz2]; omega
  case b2 => unfold maxLen; omega
  case b3 => simp
  case go =>
    intro w1 hown hg
    have hh := owns_full hown
    have hfr : Below w.heap.size w w1 := (Below.refl _ _).grown hg (Nat.le_refl _) (fun k e => by cases e)
    clear hown hg
    rw [made_part dists 32 dists_length] at hh
    have HH : Hid _ := hh; clear hh
    go_wp2_with fail
    go_loopw [6] (fun i wr => ∃ k : Nat, k ≤ 32 ∧ i = .int .i64 k ∧ wr.heap[w.heap.size]? = some (.cells (ints (part dists k)) 3 (0, 0)) ∧ Below w.heap.size w wr) (fun i _ => 32 - (intOf i).toNat)
    case atStart => exact ⟨0, by omega, rfl, HH.out, hfr⟩
    case round =>
      obtain ⟨k, hk, rfl, hh, hf⟩ := hrel
      by_cases hlt : k < 32
      · obtain ⟨cv, hc⟩ : ∃ cv, wr.cell? ⟨w.heap.size, k, none⟩ = some (.int .i64 cv) := ⟨_, cell_ints hh k (by rw [part_length, dists_length]; exact hlt)⟩
        have hz := free_of_heap hh
        have HK : Hid _ := hh; clear hh
        go_wp2_with fail
        go_roundw
        case rel =>
          refine ⟨k + 1, by omega, by go_num, ?_, ?_⟩
          · have := set_ints HK.out k 5
            have e : dists.getD k 0 = 5 := by simp [dists, List.getD, hlt]
            have h2 := part_set dists k (by rw [dists_length]; exact hlt)
            rw [e] at h2
            rw [← h2]
            exact this
          · exact hf.setCell (p := ⟨w.heap.size, k, none⟩) (Nat.le_refl _) _
        case measure => simp [intOf]; omega
      · have : k = 32 := by omega
        subst this
        have HK : Hid _ := hh; clear hh
        go_wp2_with fail
        go_ret
        refine ⟨rfl, ?_, hf⟩
        rw [← part_all, dists_length]
        exact HK.out

set_option maxRecDepth 100000 in
set_option maxHeartbeats 1000000 in
set_option maxRecDepth 100000 in
theorem fixedLiterals_any (w : World) :
    Calls Tryd.prog 33 #[] w fun e w' => e = .returned (.slice (some ⟨w.heap.size, 0, none⟩) 288 288) ∧ w'.heap[w.heap.size]? = some (.cells (ints (ni lits)) 3 (0, 0)) ∧ Below w.heap.size w w' := by
  obtain ⟨i0, hi, hz0, hz1, hz2⟩ := info_parts info3
  go_enter Tryd.func33, Tryd.ntmps33
  go_wp2_with (at_make; refine wpList_make_full _ rfl _ _ 36 rfl w.heap.size 3 i0 (.int .i64 0) 1 underlying36 hi hz0 hz1 .i64 .i64 288 288 288 rfl rfl rfl rfl ?b1 ?b2 ?b3 ?go)
  case b1 => rw [hz2]; omega
  case b2 => unfold maxLen; omega
  case b3 => simp
  case go =>
    intro w1 hown hg
    have hh := owns_full hown
    have hfr : Below w.heap.size w w1 := (Below.refl _ _).grown hg (Nat.le_refl _) (fun k e => by cases e)
    clear hown hg
    rw [made_part lits 288 lits_length] at hh
    have HH : Hid _ := hh; clear hh
    go_wp2_with fail
    go_loopw [6] (fun i wr => ∃ k : Nat, k ≤ 288 ∧ i = .int .i64 k ∧ wr.heap[w.heap.size]? = some (.cells (ints (part lits k)) 3 (0, 0)) ∧ Below w.heap.size w wr) (fun i _ => 288 - (intOf i).toNat)
    case atStart => exact ⟨0, by omega, rfl, HH.out, hfr⟩
    case round =>
      obtain ⟨k, hk, rfl, hh, hf⟩ := hrel
      by_cases hlt : k < 288
      · obtain ⟨cv, hc⟩ : ∃ cv, wr.cell? ⟨w.heap.size, k, none⟩ = some (.int .i64 cv) := ⟨_, cell_ints hh k (by rw [part_length, lits_length]; exact hlt)⟩
        have hz := free_of_heap hh
        have HK : Hid _ := hh; clear hh
        have e : lits.getD k 0 = if k < 144 then 8 else if k < 256 then 9 else if k < 280 then 7 else 8 := by simp [lits, List.getD, hlt]
        have h2 := part_set lits k (by rw [lits_length]; exact hlt)
        rw [e] at h2
        have H2 : Hid _ := h2; clear h2 e
        by_cases h144 : k < 144
        · have H3 := H2.out
          rw [if_pos h144] at H3
          have H4 : Hid _ := H3; clear H3
          go_wp2_with fail
          go_roundw
          case rel =>
            refine ⟨k + 1, by omega, by go_num, ?_, hf.setCell (p := ⟨w.heap.size, k, none⟩) (Nat.le_refl _) _⟩
            rw [← H4.out]; exact set_ints HK.out k 8
          case measure => simp [intOf]; omega
        by_cases h256 : k < 256
        · have H3 := H2.out
          rw [if_neg h144, if_pos h256] at H3
          have H4 : Hid _ := H3; clear H3
          go_wp2_with fail
          go_roundw
          case rel =>
            refine ⟨k + 1, by omega, by go_num, ?_, hf.setCell (p := ⟨w.heap.size, k, none⟩) (Nat.le_refl _) _⟩
            rw [← H4.out]; exact set_ints HK.out k 9
          case measure => simp [intOf]; omega
        by_cases h280 : k < 280
        · have H3 := H2.out
          rw [if_neg h144, if_neg h256, if_pos h280] at H3
          have H4 : Hid _ := H3; clear H3
          go_wp2_with fail
          go_roundw
          case rel =>
            refine ⟨k + 1, by omega, by go_num, ?_, hf.setCell (p := ⟨w.heap.size, k, none⟩) (Nat.le_refl _) _⟩
            rw [← H4.out]; exact set_ints HK.out k 7
          case measure => simp [intOf]; omega
        · have H3 := H2.out
          rw [if_neg h144, if_neg h256, if_neg h280] at H3
          have H4 : Hid _ := H3; clear H3
          go_wp2_with fail
          go_roundw
          case rel =>
            refine ⟨k + 1, by omega, by go_num, ?_, hf.setCell (p := ⟨w.heap.size, k, none⟩) (Nat.le_refl _) _⟩
            rw [← H4.out]; exact set_ints HK.out k 8
          case measure => simp [intOf]; omega
      · have : k = 288 := by omega
        subst this
        have HK : Hid _ := hh; clear hh
        go_wp2_with fail
        go_ret
        refine ⟨rfl, ?_, hf⟩
        rw [← part_all, lits_length]
        exact HK.out

end Go.Proofs.YtdpobjgfnhjagaaDoor

namespace Go.Proofs.YtdpobjgfnhjagaaDoor
open Go.RowKit

theorem run_index16 (cs : List Int) (h16 : cs.length = 16) (k : Nat) (hk : k < 16) (w : World) : (Instr.index 112 (.agg (ints cs)) (.int .i64 k)).run Tryd.prog w = .ok (.int .i64 (cs.getD k 0)) w := by
  simp [Instr.index, run_underlying Tryd.underlying112, go_sem, hk]
  rw [List.getElem?_eq_getElem (by omega)]
  rfl

/-- Numbers lie in block g from o on. -/
structure IntsAt (w : World) (g o : Nat) (L : List Int) : Prop where
  lt : g < w.heap.size
  cell : ∀ i, i < L.length → w.cell? ⟨g, o + i, none⟩ = some (.int .i64 (L.getD i 0))

theorem IntsAt.of_heap {w : World} {g : Nat} {L : List Int} {t : TypeId} (h : w.heap[g]? = some (.cells (ints L) t (0, 0))) : IntsAt w g 0 L :=
  ⟨lt_of_heap h, fun i hi => by rw [Nat.zero_add]; exact cell_ints h i hi⟩
theorem IntsAt.below {w w' : World} {B g o : Nat} {L : List Int} (h : IntsAt w g o L) (hb : Below B w w') (hg : g < B) : IntsAt w' g o L :=
  ⟨Nat.lt_of_lt_of_le h.lt hb.size, fun i hi => (hb.cell (p := ⟨g, o + i, none⟩) hg).trans (h.cell i hi)⟩

/-- The first loop of 'sorted': where each length's symbols begin, and how many there are. -/
def run0 : List Int → Nat → List Int × Int → List Int × Int
  | [], _, st => st
  | c :: r, k, st => run0 r (k + 1) (st.1.set k st.2, st.2 + c)
def ok0 : List Int → Int → Bool
  | [], _ => true
  | c :: r, t => decide (0 ≤ t) && decide (t ≤ 1000) && decide (0 ≤ c) && decide (c ≤ 1000) && ok0 r (t + c)

/-- The second: each symbol into its place. -/
def stp2 (st : List Int × List Int) (k n : Nat) : List Int × List Int :=
  if n = 0 then st else (st.1.set n (st.1.getD n 0 + 1), st.2.set (st.1.getD n 0).toNat k)
def run2 : List Nat → Nat → List Int × List Int → List Int × List Int
  | [], _, st => st
  | n :: r, k, st => run2 r (k + 1) (stp2 st k n)
def ok2 : List Nat → Nat → Nat → List Int × List Int → Bool
  | [], _, _, _ => true
  | n :: r, k, t, st => decide (n < 16) && (decide (n = 0) || (decide (0 ≤ st.1.getD n 0) && decide (st.1.getD n 0 < t))) && ok2 r (k + 1) t (stp2 st k n)

theorem stp2_length (st : List Int × List Int) (k n : Nat) : (stp2 st k n).1.length = st.1.length ∧ (stp2 st k n).2.length = st.2.length := by
  unfold stp2; split <;> simp

theorem ni_getD (L : List Nat) (k : Nat) : (ni L).getD k 0 = ((L.getD k 0 : Nat) : Int) := by
  simp only [ni, List.getD, List.getElem?_map]
  cases L[k]? <;> rfl
theorem ni_length (L : List Nat) : (ni L).length = L.length := by simp [ni]
theorem made_zero (n : Nat) : (madeCells #[Value.int .i64 0] n).toList.toArray = ints (List.replicate n 0) := by
  apply Array.ext
  · simp [madeCells]
  · intro i h1 h2
    simp [madeCells, Nat.mod_one]

theorem drop_cons (L : List Nat) (k : Nat) (h : k < L.length) : L.drop k = L.getD k 0 :: L.drop (k + 1) := by
  rw [List.drop_eq_getElem_cons h]; simp [List.getD, h]
theorem drop_consI (L : List Int) (k : Nat) (h : k < L.length) : L.drop k = L.getD k 0 :: L.drop (k + 1) := by
  rw [List.drop_eq_getElem_cons h]; simp [List.getD, h]

set_option maxHeartbeats 2000000 in
set_option maxRecDepth 100000 in
theorem sorted_any (g o n cap t : Nat) (lens : List Nat) (c0 c1 c2 c3 c4 c5 c6 c7 c8 c9 c10 c11 c12 c13 c14 c15 : Int) (cs N S : List Int) (w : World) (hcs : cs = [c0, c1, c2, c3, c4, c5, c6, c7, c8, c9, c10, c11, c12, c13, c14, c15]) (hn : lens.length = n) (hn2 : n ≤ 320) (hL : IntsAt w g o (ni lens)) 
    (h0 : run0 cs 0 (List.replicate 16 0, 0) = (N, (t : Int))) (hk0 : ok0 cs 0 = true) (ht : t ≤ 320) (h2 : (run2 lens 0 (N, List.replicate t 0)).2 = S) (hk2 : ok2 lens 0 t (N, List.replicate t 0) = true) :
    Calls Tryd.prog 81 #[.slice (some ⟨g, o, none⟩) n cap, .agg #[.int .i64 c0, .int .i64 c1, .int .i64 c2, .int .i64 c3, .int .i64 c4, .int .i64 c5, .int .i64 c6, .int .i64 c7, .int .i64 c8, .int .i64 c9, .int .i64 c10, .int .i64 c11, .int .i64 c12, .int .i64 c13, .int .i64 c14, .int .i64 c15]] w fun e w' => e = .returned (.slice (some ⟨w.heap.size + 2, 0, none⟩) t t) ∧ w'.heap[w.heap.size + 2]? = some (.cells (ints S) 3 (0, 0)) ∧ Below w.heap.size w w' := by
  obtain ⟨i0, hi, hz0, hz1, hz2⟩ := info_parts info3
  have hg := hL.lt
  have HN : Hid _ := hn
  have H0 : Hid (run0 cs 0 (List.replicate 16 0, 0) = (N, (t : Int))) := h0; clear h0
  have H2 : Hid ((run2 lens 0 (N, List.replicate t 0)).2 = S) := h2; clear h2
  have HK0 : Hid (ok0 cs 0 = true) := hk0; clear hk0
  have HK2 : Hid (ok2 lens 0 t (N, List.replicate t 0) = true) := hk2; clear hk2
  have h16 : Hid (cs.length = 16) := by rw [hcs]; rfl
  have HC : Hid (cs = [c0, c1, c2, c3, c4, c5, c6, c7, c8, c9, c10, c11, c12, c13, c14, c15]) := hcs; clear hcs
  go_enter Tryd.func81, Tryd.ntmps81
  go_wp2_with fail
  go_loopw [6, 13] (fun tt i wr => ∃ (k : Nat) (st : List Int) (tv : Int), k ≤ 16 ∧ i = .int .i64 k ∧ tt = .int .i64 tv ∧ Hid (run0 (cs.drop k) k (st, tv) = (N, (t : Int))) ∧ Hid (ok0 (cs.drop k) tv = true) ∧ Hid (st.length = 16) ∧ wr.heap[w.heap.size + 1]? = some (.cells (ints st) 112 (0, 0)) ∧ Below w.heap.size w wr ∧ Hid (wr.heap.size = w.heap.size + 2)) (fun _ i _ => 16 - (intOf i).toNat)
  case atStart =>
    refine ⟨0, List.replicate 16 0, 0, by omega, rfl, rfl, H0.out, HK0.out, by simp [Hid], ?_, ?_, ?_⟩
    · have := heap_alloc_new (w.alloc (.cells #[.int .i64 c0, .int .i64 c1, .int .i64 c2, .int .i64 c3, .int .i64 c4, .int .i64 c5, .int .i64 c6, .int .i64 c7, .int .i64 c8, .int .i64 c9, .int .i64 c10, .int .i64 c11, .int .i64 c12, .int .i64 c13, .int .i64 c14, .int .i64 c15] 112)) (.cells (ints (List.replicate 16 0)) 112)
      rw [show (w.alloc (.cells #[.int .i64 c0, .int .i64 c1, .int .i64 c2, .int .i64 c3, .int .i64 c4, .int .i64 c5, .int .i64 c6, .int .i64 c7, .int .i64 c8, .int .i64 c9, .int .i64 c10, .int .i64 c11, .int .i64 c12, .int .i64 c13, .int .i64 c14, .int .i64 c15] 112)).heap.size = w.heap.size + 1 from by simp] at this
      exact this
    · exact ((Below.refl _ _).alloc (Nat.le_refl _) _).alloc (by simp) _
    · simp [Hid]
  case round =>
    obtain ⟨k, st, tv, hk, rfl, rfl, hr, hok, hsl, hh, hbel, hsz⟩ := hrel
    by_cases hlt : k < 16
    · obtain ⟨cv, hc⟩ : ∃ cv, wr.cell? ⟨w.heap.size + 1, k, none⟩ = some (.int .i64 cv) := ⟨_, cell_ints hh k (by rw [hsl.out]; exact hlt)⟩
      have hz := free_of_heap hh
      obtain ⟨cv2, hcv2⟩ : ∃ v, Hid (cs.getD k 0 = v) := ⟨_, rfl⟩
      have hidx : ∀ w, (Instr.index 112 (.agg #[.int .i64 c0, .int .i64 c1, .int .i64 c2, .int .i64 c3, .int .i64 c4, .int .i64 c5, .int .i64 c6, .int .i64 c7, .int .i64 c8, .int .i64 c9, .int .i64 c10, .int .i64 c11, .int .i64 c12, .int .i64 c13, .int .i64 c14, .int .i64 c15]) (.int .i64 k)).run Tryd.prog w = .ok (.int .i64 cv2) w := by
        intro w'
        have := run_index16 cs h16.out k hlt w'
        rw [hcv2.out, HC.out] at this
        exact this
      have hr1 := hr.out
      have hok1 := hok.out
      rw [drop_consI cs k (by rw [h16.out]; exact hlt), hcv2.out] at hr1 hok1
      simp only [run0, ok0, Bool.and_eq_true, decide_eq_true_eq] at hr1 hok1
      obtain ⟨⟨⟨⟨b1, b2⟩, b3⟩, b4⟩, hok2⟩ := hok1
      have HK : Hid _ := hh; clear hh
      have HR1 : Hid _ := hr1; clear hr1
      have HO2 : Hid _ := hok2; clear hok2
      go_wp2_with fail
      go_roundw
      case rel =>
        refine ⟨k + 1, st.set k tv, tv + cv2, by omega, by go_num, rfl, HR1.out, HO2.out, ?_, set_ints HK.out k tv, hbel.setCell (p := ⟨w.heap.size + 1, k, none⟩) (Nat.le_add_right _ _) _, ?_⟩
        · have := hsl.out
          show (st.set k tv).length = 16
          simpa using this
        · have := hsz.out
          simpa [World.setCell, Hid] using this
      case measure => simp [intOf]; omega
    · have : k = 16 := by omega
      subst this
      have hr1 := hr.out
      rw [List.drop_of_length_le (by rw [h16.out]; omega)] at hr1
      simp only [run0, Prod.mk.injEq] at hr1
      obtain ⟨rfl, rfl⟩ := hr1
      have HK : Hid _ := hh; clear hh hn
      go_wp2_with (at_make; refine wpList_make_full _ rfl _ _ 36 rfl (w.heap.size + 2) 3 i0 (.int .i64 0) 1 underlying36 hi hz0 hz1 .i64 .i64 t t t rfl rfl rfl rfl ?b1 ?b2 ?b3 ?go)
      case b1 => rw [hz2]; omega
      case b2 => unfold maxLen; omega
      case b3 => rw [hsz.out]; omega
      case go =>
        intro w1 hown hg1
        have hS := owns_full hown
        rw [hsz.out, made_zero t] at hS
        have hb1 : Below w.heap.size w w1 := hbel.grown hg1 (by rw [hsz.out]; omega) (fun k e => by cases e)
        have hN : w1.heap[w.heap.size + 1]? = some (.cells (ints st) 112 (0, 0)) := (hg1.block _ (by rw [hsz.out]; omega) (by simp)).trans HK.out
        rw [hsz.out]
        clear hown hg1
        have HS : Hid _ := hS; clear hS
        have HNN : Hid _ := hN; clear hN
        go_wp2_with fail
        go_loopw [28] (fun i w2 => ∃ (k : Nat) (st : List Int × List Int), k ≤ n ∧ i = .int .i64 k ∧ Hid ((run2 (lens.drop k) k st).2 = S) ∧ Hid (ok2 (lens.drop k) k t st = true) ∧ Hid (st.1.length = 16) ∧ Hid (st.2.length = t) ∧ w2.heap[w.heap.size + 1]? = some (.cells (ints st.1) 112 (0, 0)) ∧ w2.heap[w.heap.size + 2]? = some (.cells (ints st.2) 3 (0, 0)) ∧ Below w.heap.size w w2) (fun i _ => n - (intOf i).toNat)
        case atStart => exact ⟨0, (st, List.replicate t 0), by omega, rfl, H2.out, HK2.out, hsl.out, by simp [Hid], HNN.out, HS.out, hb1⟩
        case round =>
          obtain ⟨k, st, hk, rfl, hr, hok, hl1, hl2, hh1, hh2, hbw⟩ := hrel
          by_cases hlt : k < n
          · have hkl : k < lens.length := by rw [HN.out]; exact hlt
            have hgc : wr.cell? ⟨g, o + k, none⟩ = some (.int .i64 ((ni lens).getD k 0)) := (hL.below hbw hg).cell k (by rw [ni_length]; exact hkl)
            rw [ni_getD] at hgc
            have hr1 := hr.out
            have hok1 := hok.out
            rw [drop_cons lens k hkl] at hr1 hok1
            generalize lens.getD k 0 = m at hgc hr1 hok1
            simp only [run2, ok2, Bool.and_eq_true, Bool.or_eq_true, decide_eq_true_eq] at hr1 hok1
            obtain ⟨⟨hm, hcase⟩, hok3⟩ := hok1
            have HR1 : Hid _ := hr1; clear hr1
            have HO3 : Hid _ := hok3; clear hok3
            by_cases hm0 : m = 0
            · subst hm0
              have h1 : Hid _ := hh1; clear hh1
              have h2 : Hid _ := hh2; clear hh2
              clear hcase
              go_wp2_with fail
              go_roundw
              case rel => exact ⟨k + 1, st, by omega, by go_num, HR1.out, HO3.out, hl1, hl2, h1.out, h2.out, hbw⟩
              case measure => simp [intOf]; omega
            · obtain ⟨v0, v1⟩ := hcase.resolve_left hm0
              obtain ⟨v, hv⟩ := Int.eq_ofNat_of_zero_le v0
              have hnc : wr.cell? ⟨w.heap.size + 1, m, none⟩ = some (.int .i64 (st.1.getD m 0)) := cell_ints hh1 m (by rw [hl1.out]; exact hm)
              rw [hv] at hnc
              have hvt : v < t := by omega
              obtain ⟨sv, hsc⟩ : ∃ sv, wr.cell? ⟨w.heap.size + 2, v, none⟩ = some (.int .i64 sv) := ⟨_, cell_ints hh2 v (by rw [hl2.out]; exact hvt)⟩
              have hz1 := free_of_heap hh1
              have hz2 := free_of_heap hh2
              have hmp : (0 : Int) < (m : Int) := by omega
              have h1 : Hid _ := hh1; clear hh1
              have h2 : Hid _ := hh2; clear hh2
              have HV : Hid (st.1.getD m 0 = (v : Int)) := hv; clear hv v0 v1 hcase
              go_wp2_with fail
              go_roundw
              case rel =>
                have e1 : stp2 st k m = (st.1.set m ((v : Int) + 1), st.2.set v k) := by
                  unfold stp2; rw [if_neg hm0, HV.out]; simp
                have hr2 := HR1.out
                have ho2 := HO3.out
                rw [e1] at hr2 ho2
                refine ⟨k + 1, (st.1.set m ((v : Int) + 1), st.2.set v k), by omega, by go_num, hr2, ho2, ?_, ?_, ?_, ?_, ?_⟩
                · have := hl1.out
                  simpa [Hid] using this
                · have := hl2.out
                  simpa [Hid] using this
                · exact set_ints ((heap_set_other (by omega) _ _).trans h1.out) m _
                · exact (heap_set_other (by omega) _ _).trans (set_ints h2.out v k)
                · exact (hbw.setCell (p := ⟨w.heap.size + 2, v, none⟩) (Nat.le_add_right _ _) _).setCell (p := ⟨w.heap.size + 1, m, none⟩) (Nat.le_add_right _ _) _
              case measure => simp [intOf]; omega
          · have : k = n := by omega
            subst this
            have hr1 := hr.out
            rw [List.drop_of_length_le (by rw [HN.out]; omega)] at hr1
            simp only [run2] at hr1
            have HR1 : Hid (st.2 = S) := hr1; clear hr1
            have h1 : Hid _ := hh1; clear hh1
            have h2 : Hid _ := hh2; clear hh2
            go_wp2_with fail
            go_ret
            refine ⟨rfl, ?_, hbw⟩
            rw [← HR1.out]
            exact h2.out

end Go.Proofs.YtdpobjgfnhjagaaDoor

namespace Go.Proofs.YtdpobjgfnhjagaaDoor
open Go.RowKit

/-- A code's block. -/
def codeArr (cs : List Int) (sv : Value) (lg : Int) : Array Value := (cs.map (Value.int .i64) ++ [sv, .int .i64 lg]).toArray
abbrev CB (cs : List Int) (sv : Value) (lg : Int) : Obj := .cells (codeArr cs sv lg) 117 (0, 0)

theorem code_cell {w : World} {c : Nat} {cs : List Int} {sv : Value} {lg : Int} (h : w.heap[c]? = some (CB cs sv lg)) (h16 : cs.length = 16) :
    (∀ i, i < 16 → w.cell? ⟨c, i, none⟩ = some (.int .i64 (cs.getD i 0))) ∧ w.cell? ⟨c, 16, none⟩ = some sv ∧ w.cell? ⟨c, 17, none⟩ = some (.int .i64 lg) ∧ (∀ i, w.frozen? ⟨c, i, none⟩ = false) := by
  refine ⟨fun i hi => ?_, ?_, ?_, free_of_heap h⟩
  · rw [cell_of_heap h]; simp [codeArr, List.getElem?_append, h16, hi, List.getD]
  · rw [cell_of_heap h]; simp [codeArr, h16]
  · rw [cell_of_heap h]; simp [codeArr, h16]

theorem code_set {w : World} {c : Nat} {cs : List Int} {sv : Value} {lg : Int} (h : w.heap[c]? = some (CB cs sv lg)) (h16 : cs.length = 16) (i : Nat) (hi : i < 16) (v : Int) : (w.setCell ⟨c, i, none⟩ (.int .i64 v)).heap[c]? = some (CB (cs.set i v) sv lg) := by
  rw [heap_set h]
  simp [codeArr, h16, hi, List.map_set]
theorem code_set16 {w : World} {c : Nat} {cs : List Int} {sv : Value} {lg : Int} (h : w.heap[c]? = some (CB cs sv lg)) (h16 : cs.length = 16) (v : Value) : (w.setCell ⟨c, 16, none⟩ v).heap[c]? = some (CB cs v lg) := by
  rw [heap_set h]
  simp [codeArr, h16]
theorem code_set17 {w : World} {c : Nat} {cs : List Int} {sv : Value} {lg : Int} (h : w.heap[c]? = some (CB cs sv lg)) (h16 : cs.length = 16) (v : Int) : (w.setCell ⟨c, 17, none⟩ (.int .i64 v)).heap[c]? = some (CB cs sv v) := by
  rw [heap_set h]
  simp [codeArr, h16]

/-- Make's loop: how many there are of each length, and the longest. -/
def stp1 (st : List Int × Int) (n : Nat) : List Int × Int := if n = 0 then st else (st.1.set n (st.1.getD n 0 + 1), if st.2 < (n : Int) then (n : Int) else st.2)
def run1 : List Nat → List Int × Int → List Int × Int
  | [], st => st
  | n :: r, st => run1 r (stp1 st n)
def ok1 : List Nat → List Int × Int → Bool
  | [], _ => true
  | n :: r, st => decide (n < 16) && decide (0 ≤ st.1.getD n 0) && decide (st.1.getD n 0 ≤ 1000) && ok1 r (stp1 st n)

set_option maxHeartbeats 2000000 in
set_option maxRecDepth 100000 in
theorem make_any (g o n cap t : Nat) (lens : List Nat) (c0 c1 c2 c3 c4 c5 c6 c7 c8 c9 c10 c11 c12 c13 c14 c15 lg : Int) (cs N S : List Int) (w : World) (hcs : cs = [c0, c1, c2, c3, c4, c5, c6, c7, c8, c9, c10, c11, c12, c13, c14, c15]) (hn : lens.length = n) (hn2 : n ≤ 320) (hL : IntsAt w g o (ni lens))
    (h1 : run1 lens (List.replicate 16 0, 0) = (cs, lg)) (hk1 : ok1 lens (List.replicate 16 0, 0) = true)
    (h0 : run0 cs 0 (List.replicate 16 0, 0) = (N, (t : Int))) (hk0 : ok0 cs 0 = true) (ht : t ≤ 320) (h2 : (run2 lens 0 (N, List.replicate t 0)).2 = S) (hk2 : ok2 lens 0 t (N, List.replicate t 0) = true) :
    Calls Tryd.prog 67 #[.slice (some ⟨g, o, none⟩) n cap] w fun e w' => e = .returned (.pointer (some ⟨w.heap.size, 0, none⟩)) ∧ w'.heap[w.heap.size]? = some (CB cs (.slice (some ⟨w.heap.size + 3, 0, none⟩) t t) lg) ∧ w'.heap[w.heap.size + 3]? = some (.cells (ints S) 3 (0, 0)) ∧ Below w.heap.size w w' := by
  have hg := hL.lt
  have HN : Hid (lens.length = n) := hn
  have H1 : Hid (run1 lens (List.replicate 16 0, 0) = (cs, lg)) := h1; clear h1
  have HK1 : Hid (ok1 lens (List.replicate 16 0, 0) = true) := hk1; clear hk1
  have H0 : Hid (run0 cs 0 (List.replicate 16 0, 0) = (N, (t : Int))) := h0; clear h0
  have H2 : Hid ((run2 lens 0 (N, List.replicate t 0)).2 = S) := h2; clear h2
  have HK0 : Hid (ok0 cs 0 = true) := hk0; clear hk0
  have HK2 : Hid (ok2 lens 0 t (N, List.replicate t 0) = true) := hk2; clear hk2
  have h16 : Hid (cs.length = 16) := by rw [hcs]; rfl
  have HC : Hid (cs = [c0, c1, c2, c3, c4, c5, c6, c7, c8, c9, c10, c11, c12, c13, c14, c15]) := hcs; clear hcs hn
  go_enter Tryd.func67, Tryd.ntmps67
  go_wp2_with fail
  go_loopw [10] (fun i wr => ∃ (k : Nat) (st : List Int × Int), k ≤ n ∧ i = .int .i64 k ∧ Hid (run1 (lens.drop k) st = (cs, lg)) ∧ Hid (ok1 (lens.drop k) st = true) ∧ Hid (st.1.length = 16) ∧ wr.heap[w.heap.size]? = some (CB st.1 (.slice none 0 0) st.2) ∧ Below w.heap.size w wr ∧ Hid (wr.heap.size = w.heap.size + 1)) (fun i _ => n - (intOf i).toNat)
  case atStart =>
    refine ⟨0, (List.replicate 16 0, 0), by omega, rfl, H1.out, HK1.out, by simp [Hid], ?_, ?_, ?_⟩
    · exact heap_alloc_new w _
    · exact (Below.refl _ _).alloc (Nat.le_refl _) _
    · simp [Hid]
  case round =>
    obtain ⟨k, st, hk, rfl, hr, hok, hl1, hh, hbw, hsz⟩ := hrel
    by_cases hlt : k < n
    · have hkl : k < lens.length := by rw [HN.out]; exact hlt
      have hgc : wr.cell? ⟨g, o + k, none⟩ = some (.int .i64 ((ni lens).getD k 0)) := (hL.below hbw hg).cell k (by rw [ni_length]; exact hkl)
      rw [ni_getD] at hgc
      have hr1 := hr.out
      have hok1 := hok.out
      rw [drop_cons lens k hkl] at hr1 hok1
      generalize lens.getD k 0 = m at hgc hr1 hok1
      simp only [run1, ok1, Bool.and_eq_true, decide_eq_true_eq] at hr1 hok1
      obtain ⟨⟨⟨hm, v0⟩, v1⟩, hok3⟩ := hok1
      have HR1 : Hid _ := hr1; clear hr1
      have HO3 : Hid _ := hok3; clear hok3
      by_cases hm0 : m = 0
      · subst hm0
        have h1 : Hid _ := hh; clear hh
        clear v0 v1
        go_wp2_with fail
        go_roundw
        case rel => exact ⟨k + 1, st, by omega, by go_num, HR1.out, HO3.out, hl1, h1.out, hbw, hsz⟩
        case measure => simp [intOf]; omega
      · obtain ⟨e1, e2, e3, e4⟩ := code_cell hh hl1.out
        have hc := e1 m hm
        obtain ⟨v, hv⟩ : ∃ v, Hid (st.1.getD m 0 = v) := ⟨_, rfl⟩
        rw [hv.out] at hc v0 v1
        have hmp : (0 : Int) < (m : Int) := by omega
        have h1 : Hid _ := hh; clear hh e1
        go_wp2_with fail
        go_region
        go_wp2_with fail
        go_roundw
        case rel =>
          have e5 : stp1 st m = (st.1.set m (v + 1), if st.2 < (m : Int) then (m : Int) else st.2) := by
            unfold stp1; rw [if_neg hm0, hv.out]
          have hr2 := HR1.out
          have ho2 := HO3.out
          rw [e5] at hr2 ho2
          have hl2 : (st.1.set m (v + 1)).length = 16 := by rw [List.length_set]; exact hl1.out
          refine ⟨k + 1, (st.1.set m (v + 1), if st.2 < (m : Int) then (m : Int) else st.2), by omega, by go_num, hr2, ho2, hl2, ?_, ?_, ?_⟩
          · exact code_set17 (code_set h1.out hl1.out m hm (v + 1)) hl2 _
          · exact ((hbw.setCell (p := ⟨w.heap.size, m, none⟩) (Nat.le_refl _) _).setCell (p := ⟨w.heap.size, 17, none⟩) (Nat.le_refl _) _).drew
          · have := hsz.out
            simpa [World.setCell, Hid, heap_drew] using this
        case measure => simp [intOf]; omega
    · have : k = n := by omega
      subst this
      have hr1 := hr.out
      rw [List.drop_of_length_le (by rw [HN.out]; omega)] at hr1
      simp only [run1] at hr1
      subst hr1
      obtain ⟨e1, e2, e3, e4⟩ := code_cell hh h16.out
      have d0 := e1 0 (by omega)
      have d1 := e1 1 (by omega)
      have d2 := e1 2 (by omega)
      have d3 := e1 3 (by omega)
      have d4 := e1 4 (by omega)
      have d5 := e1 5 (by omega)
      have d6 := e1 6 (by omega)
      have d7 := e1 7 (by omega)
      have d8 := e1 8 (by omega)
      have d9 := e1 9 (by omega)
      have d10 := e1 10 (by omega)
      have d11 := e1 11 (by omega)
      have d12 := e1 12 (by omega)
      have d13 := e1 13 (by omega)
      have d14 := e1 14 (by omega)
      have d15 := e1 15 (by omega)
      rw [HC.out] at d0 d1 d2 d3 d4 d5 d6 d7 d8 d9 d10 d11 d12 d13 d14 d15
      simp only [List.getD_cons_zero, List.getD_cons_succ] at d0 d1 d2 d3 d4 d5 d6 d7 d8 d9 d10 d11 d12 d13 d14 d15
      have hG : IntsAt wr g o (ni lens) := hL.below hbw hg
      have h1 : Hid _ := hh; clear hh e1
      go_wp2_with fail
      refine (sorted_any g o k cap t lens c0 c1 c2 c3 c4 c5 c6 c7 c8 c9 c10 c11 c12 c13 c14 c15 cs N S wr HC.out HN.out hn2 hG H0.out HK0.out ht H2.out HK2.out).mono ?_
      rintro e w2 ⟨rfl, k2, b2⟩
      rw [show wr.heap.size + 2 = w.heap.size + 3 from by rw [hsz.out]] at k2 ⊢
      rw [hsz.out] at b2
      have h2 : w2.heap[w.heap.size]? = some (CB cs (.slice none 0 0) lg) := (b2.block _ (by omega)).trans h1.out
      obtain ⟨e1, f2, f3, f4⟩ := code_cell h2 h16.out
      have K2 : Hid _ := k2; clear k2
      have HH2 : Hid (w2.heap[w.heap.size]? = some (CB cs (.slice none 0 0) lg)) := h2; clear h2 e1
      go_wp2_with fail
      go_ret
      refine ⟨rfl, code_set16 HH2.out h16.out _, (heap_set_other (by omega) _ _).trans K2.out, ?_⟩
      exact (hbw.trans (b2.mono (by omega))).setCell (p := ⟨w.heap.size, 16, none⟩) (Nat.le_refl _) _

end Go.Proofs.YtdpobjgfnhjagaaDoor

namespace Go.Proofs.YtdpobjgfnhjagaaDoor

/-- The bit at place i; the number of n bits from there, its lowest bit first. -/
def bitAt (I : List UInt8) (i : Nat) : Nat := (I.getD (i / 8) 0).toNat / 2 ^ (i % 8) % 2
def numAt (I : List UInt8) : Nat → Nat → Nat
  | _, 0 => 0
  | i, n + 1 => bitAt I i + 2 * numAt I (i + 1) n

theorem bitAt_lt (I : List UInt8) (i : Nat) : bitAt I i < 2 := Nat.mod_lt _ (by omega)
theorem numAt_lt (I : List UInt8) (i n : Nat) : numAt I i n < 2 ^ n := by
  induction n generalizing i with
  | zero => simp [numAt]
  | succ n ih =>
    have := ih (i + 1)
    have := bitAt_lt I i
    rw [numAt, Nat.pow_succ]
    omega
theorem numAt_snoc (I : List UInt8) (i n : Nat) : numAt I i (n + 1) = numAt I i n + 2 ^ n * bitAt I (i + n) := by
  induction n generalizing i with
  | zero => simp [numAt]
  | succ n ih =>
    rw [numAt, ih (i + 1), numAt, Nat.pow_succ, show i + 1 + n = i + (n + 1) by omega]
    rw [Nat.mul_add, ← Nat.add_assoc, ← Nat.mul_assoc, Nat.mul_comm 2 (2 ^ n)]

/-- A code that was made from lengths: how many of each length, the symbols by their codes, the longest. -/
structure Cd where
  cs : List Int
  S : List Int
  lg : Int

/-- The next symbol, and the place behind its code: an error is 2 (no bit) or 3 (no code). -/
def symGo (I : List UInt8) (C : Cd) : Nat → Nat → Int → Int → Int → Nat → Except Int (Int × Nat)
  | 0, _, _, _, _, _ => .error 3
  | f + 1, n, word, first, ahead, i =>
    if 8 * I.length ≤ i then .error 2
    else if 2 * word + bitAt I i < first + C.cs.getD n 0 then .ok (C.S.getD (ahead + (2 * word + bitAt I i) - first).toNat 0, i + 1)
    else if C.lg ≤ n then .error 3
    else symGo I C f (n + 1) (2 * word + bitAt I i) (2 * (first + C.cs.getD n 0)) (ahead + C.cs.getD n 0) (i + 1)
def symAt (I : List UInt8) (C : Cd) (i : Nat) : Except Int (Int × Nat) := symGo I C 16 1 0 0 0 i

/-- A number of n bits, or the error. -/
def numE (I : List UInt8) (i n : Nat) : Except Int (Nat × Nat) := if i + n ≤ 8 * I.length then .ok (numAt I i n, i + n) else .error 2

/-- What a symbol that counts from 0 on stands for, and how many bits more it has; g of a kind. -/
def stepM (i g : Nat) : Nat := if i < 2 * g then 0 else i / g - 1
def stepB (i g : Nat) : Nat := if i < 2 * g then i else (g + i % g) * 2 ^ (i / g - 1)
def lenB (s : Nat) : Nat := if s = 285 then 258 else 3 + stepB (s - 257) 4
def lenM (s : Nat) : Nat := if s = 285 then 0 else stepM (s - 257) 4
def distB (s : Nat) : Nat := 1 + stepB s 2
def distM (s : Nat) : Nat := stepM s 2

theorem len_bounds (s : Nat) (h1 : 257 ≤ s) (h2 : s ≤ 285) : lenB s ≤ 258 ∧ lenM s ≤ 5 ∧ 3 ≤ lenB s := by
  have key : ∀ k : Fin 29, lenB (k.val + 257) ≤ 258 ∧ lenM (k.val + 257) ≤ 5 ∧ 3 ≤ lenB (k.val + 257) := by decide +kernel
  have := key ⟨s - 257, by omega⟩
  simpa [show s - 257 + 257 = s by omega] using this
theorem dist_bounds (s : Nat) (h : s < 30) : distB s ≤ 24577 ∧ distM s ≤ 13 ∧ 1 ≤ distB s := by
  have key : ∀ k : Fin 30, distB k.val ≤ 24577 ∧ distM k.val ≤ 13 ∧ 1 ≤ distB k.val := by decide +kernel
  exact key ⟨s, h⟩
theorem step_bounds (i g : Nat) (h : i < 30) (hg : g = 2 ∨ g = 4) : stepB i g ≤ 24576 ∧ stepM i g ≤ 13 := by
  have key : ∀ k : Fin 30, (stepB k.val 2 ≤ 24576 ∧ stepM k.val 2 ≤ 13) ∧ stepB k.val 4 ≤ 24576 ∧ stepM k.val 4 ≤ 13 := by decide +kernel
  have := key ⟨i, h⟩
  rcases hg with rfl | rfl
  · exact this.1
  · exact this.2

/-- A length and a distance, behind their symbols. -/
def lenE (I : List UInt8) (s i : Nat) : Except Int (Nat × Nat) :=
  if i + lenM s ≤ 8 * I.length then .ok (lenB s + numAt I i (lenM s), i + lenM s) else .error 2
def distE (I : List UInt8) (C : Cd) (i : Nat) : Except Int (Nat × Nat) :=
  match symAt I C i with
  | .error x => .error x
  | .ok (v, j) => if 30 ≤ v then .error 3 else if j + distM v.toNat ≤ 8 * I.length then .ok (distB v.toNat + numAt I j (distM v.toNat), j + distM v.toNat) else .error 2

theorem symGo_val {I : List UInt8} {C : Cd} {f n : Nat} {word first ahead : Int} {i : Nat} {v : Int} {j : Nat} (h : symGo I C f n word first ahead i = .ok (v, j)) : (∃ k, v = C.S.getD k 0) ∧ i < j ∧ j ≤ 8 * I.length := by
  induction f generalizing n word first ahead i with
  | zero => simp [symGo] at h
  | succ f ih =>
    simp only [symGo] at h
    split at h
    · cases h
    · split at h
      · simp only [Except.ok.injEq, Prod.mk.injEq] at h
        exact ⟨⟨_, h.1.symm⟩, by omega, by omega⟩
      · split at h
        · cases h
        · obtain ⟨h1, h2, h3⟩ := ih h
          exact ⟨h1, by omega, h3⟩

/-- Bytes that came out d ahead come out once more. -/
def repGo (lim : Int) (d : Nat) : Nat → List UInt8 → Except Int (List UInt8)
  | 0, out => .ok out
  | n + 1, out => if lim ≤ out.length then .error 4 else repGo lim d n (out ++ [out.getD (out.length - d) 0])
def repE (lim : Int) (out : List UInt8) (n d : Nat) : Except Int (List UInt8) := if out.length < d then .error 3 else repGo lim d n out

/-- A block's symbols, up to its end: the place behind, and what came out. -/
def symsGo (I : List UInt8) (L D : Cd) (lim : Int) : Nat → Nat → List UInt8 → Except Int (Nat × List UInt8)
  | 0, _, _ => .error 0
  | f + 1, i, out =>
    match symAt I L i with
    | .error x => .error x
    | .ok (v, j) =>
      if v < 256 then (if lim ≤ out.length then .error 4 else symsGo I L D lim f j (out ++ [UInt8.ofNat v.toNat]))
      else if v = 256 then .ok (j, out)
      else if v < 286 then
        match lenE I v.toNat j with
        | .error x => .error x
        | .ok (n, k) =>
          match distE I D k with
          | .error x => .error x
          | .ok (d, m) =>
            match repE lim out n d with
            | .error x => .error x
            | .ok out' => symsGo I L D lim f m out'
      else .error 3

theorem lenE_ok {I : List UInt8} {s i n j : Nat} (h : lenE I s i = .ok (n, j)) (h1 : 257 ≤ s) (h2 : s ≤ 285) : i ≤ j ∧ j ≤ 8 * I.length ∧ 3 ≤ n ∧ n ≤ 300 := by
  unfold lenE at h
  split at h
  · simp only [Except.ok.injEq, Prod.mk.injEq] at h
    obtain ⟨rfl, rfl⟩ := h
    obtain ⟨b1, b2, b3⟩ := len_bounds s h1 h2
    have := numAt_lt I i (lenM s)
    have hp : 2 ^ lenM s ≤ 2 ^ 5 := Nat.pow_le_pow_right (by omega) b2
    omega
  · cases h
theorem distE_ok {I : List UInt8} {C : Cd} {i n j : Nat} (h : distE I C i = .ok (n, j)) : i ≤ j ∧ j ≤ 8 * I.length ∧ 1 ≤ n ∧ n ≤ 33000 := by
  unfold distE at h
  split at h
  · cases h
  · rename_i v k hs
    obtain ⟨_, h1, h2⟩ := symGo_val hs
    split at h
    · cases h
    · rename_i hv
      split at h
      · simp only [Except.ok.injEq, Prod.mk.injEq] at h
        obtain ⟨rfl, rfl⟩ := h
        obtain ⟨b1, b2, b3⟩ := dist_bounds v.toNat (by omega)
        have := numAt_lt I k (distM v.toNat)
        have hp : 2 ^ distM v.toNat ≤ 2 ^ 13 := Nat.pow_le_pow_right (by omega) b2
        omega
      · cases h

end Go.Proofs.YtdpobjgfnhjagaaDoor

namespace Go.Proofs.YtdpobjgfnhjagaaDoor
open Go.RowKit

/-- The reader stands at bit i. -/
def Stand (I : List UInt8) (i p : Nat) (held : Int) (left : Nat) : Prop :=
  i + left = 8 * p ∧ left < 8 ∧ p ≤ I.length ∧ (0 < left → held = (((I.getD (p - 1) 0).toNat / 2 ^ (8 - left) : Nat) : Int))

/-- The reader in memory, at bit i; what came out so far. -/
structure Env where
  B : Nat
  b : Nat
  o : Nat
  c : Nat
  I : List UInt8
  lim : Int

def RdAt (E : Env) (w : World) (i : Nat) (ov fx : Value) : Prop :=
  ∃ (p : Nat) (held : Int) (left : Nat), w.heap[E.B]? = some (RB (.slice (some ⟨E.b, E.o, none⟩) E.I.length E.c) p held left ov E.lim fx) ∧ Stand E.I i p held left

/-- What stays: the input is short enough, lies in memory ahead of the reader. -/
structure Env.Ok (E : Env) (w : World) : Prop where
  hl : E.I.length ≤ maxLen
  hb : E.b < E.B
  hI : Lies w E.b E.o E.I

theorem Env.Ok.keep {E : Env} {w w' : World} (h : E.Ok w) {S : Nat → Prop} (f : Fr S w w') (hs : ¬ S E.b) : E.Ok w' := ⟨h.hl, h.hb, h.hI.keep f hs⟩
theorem Env.Ok.one {E : Env} {w w' : World} (h : E.Ok w) (f : Fr (One E.B) w w') : E.Ok w' := h.keep f (by have := h.hb; simp [One]; omega)

theorem bit_at (E : Env) (i : Nat) (ov fx : Value) (w : World) (hE : E.Ok w) (h : RdAt E w i ov fx) :
    Calls Tryd.prog 22 #[.pointer (some ⟨E.B, 0, none⟩)] w fun r w' => ((i < 8 * E.I.length ∧ r = .returned (.int .i64 (bitAt E.I i)) ∧ RdAt E w' (i + 1) ov fx) ∨ (8 * E.I.length ≤ i ∧ r = stop 2)) ∧ Fr (One E.B) w w' := by
  obtain ⟨p, held, left, hh, s1, s2, s3, s4⟩ := h
  have hbB : E.b ≠ E.B := by have := hE.hb; omega
  cases left with
  | zero =>
    by_cases hp : p = E.I.length
    · subst hp
      refine (bit_short E.B _ E.I.length E.c held E.lim ov fx w hh).mono ?_
      rintro e w' ⟨rfl, rfl⟩
      exact ⟨Or.inr ⟨by omega, rfl⟩, (Fr.refl _ _).drew⟩
    · refine (bit_fresh E.B E.b E.o E.I.length E.c p held E.lim _ ov fx w hh (by omega) hE.hl hbB (hE.hI p (by omega)) (u8_lt _).1 (u8_lt _).2).mono ?_
      rintro e w' ⟨rfl, k, f⟩
      have hi : i = 8 * p := by omega
      subst hi
      refine ⟨Or.inl ⟨by omega, ?_, p + 1, _, 7, k, by omega, by omega, by omega, fun _ => ?_⟩, f⟩
      · refine ret_int ?_
        unfold bitAt
        rw [show 8 * p / 8 = p by omega, show 8 * p % 8 = 0 by omega]
        simp
      · simp
  | succ k =>
    have hq := s4 (by omega)
    have hx := u8_lt (E.I.getD (p - 1) 0)
    obtain ⟨Q, hQ⟩ : ∃ Q, (E.I.getD (p - 1) 0).toNat / 2 ^ (8 - (k + 1)) = Q := ⟨_, rfl⟩
    have hlt : Q ≤ (E.I.getD (p - 1) 0).toNat := by rw [← hQ]; exact Nat.div_le_self _ _
    rw [hQ] at hq
    refine (bit_more E.B k p held E.lim _ ov fx w hh (by omega) (by omega) (by omega)).mono ?_
    rintro e w' ⟨rfl, k1, f⟩
    refine ⟨Or.inl ⟨by omega, ?_, p, _, k, k1, by omega, by omega, s3, fun hk => ?_⟩, f⟩
    · refine ret_int ?_
      unfold bitAt
      rw [show i / 8 = p - 1 by omega, show i % 8 = 8 - (k + 1) by omega, hQ, hq]
      omega
    · have e1 : 8 - k = 8 - (k + 1) + 1 := by omega
      rw [e1, Nat.pow_succ, ← Nat.div_div_eq_div_mul, hQ, hq]
      omega

set_option maxHeartbeats 1000000 in
theorem number_at (E : Env) (i n : Nat) (ov fx : Value) (w : World) (hE : E.Ok w) (h : RdAt E w i ov fx) (hn : n ≤ 16) :
    Calls Tryd.prog 24 #[.pointer (some ⟨E.B, 0, none⟩), .int .i64 n] w fun r w' => ((i + n ≤ 8 * E.I.length ∧ r = .returned (.int .i64 (numAt E.I i n)) ∧ RdAt E w' (i + n) ov fx) ∨ (8 * E.I.length < i + n ∧ r = stop 2)) ∧ Fr (One E.B) w w' := by
  go_enter Tryd.func24, Tryd.ntmps24
  go_wp2_with fail
  go_loopw [5, 8] (fun v k wr => ∃ j : Nat, j ≤ n ∧ k = .int .i64 j ∧ v = .int .i64 (numAt E.I i j) ∧ i + j ≤ 8 * E.I.length ∧ RdAt E wr (i + j) ov fx ∧ Fr (One E.B) w wr) (fun _ k _ => n - (intOf k).toNat)
  case atStart =>
    obtain ⟨p, held, left, hh, s1, s2, s3, s4⟩ := id h
    exact ⟨0, by omega, rfl, rfl, by omega, h, Fr.refl _ _⟩
  case round =>
    obtain ⟨j, hj, rfl, rfl, hij, hr, hf⟩ := hrel
    by_cases hlt : j < n
    · go_wp2_with fail
      refine (bit_at E (i + j) ov fx wr (hE.one hf) hr).mono ?_
      rintro e w1 ⟨(⟨h1, rfl, h2⟩ | ⟨h1, rfl⟩), f1⟩
      · have hbl := bitAt_lt E.I (i + j)
        have hnl := numAt_lt E.I i j
        have hp : 2 ^ j ≤ 2 ^ 15 := Nat.pow_le_pow_right (by omega) (by omega)
        go_wp2_with fail
        go_roundw
        case rel =>
          refine ⟨j + 1, by omega, by go_num, ?_, by omega, h2, hf.trans f1⟩
          have hb1 : bitAt E.I (i + j) * 2 ^ j ≤ 32768 := by
            have := Nat.mul_le_mul (show bitAt E.I (i + j) ≤ 1 by omega) hp
            omega
          have e1 : wrap64 ((bitAt E.I (i + j) : Int) * 2 ^ j) = (bitAt E.I (i + j) : Int) * 2 ^ j := by
            have e2 : ((bitAt E.I (i + j) : Int) * 2 ^ j) = ((bitAt E.I (i + j) * 2 ^ j : Nat) : Int) := by simp
            rw [e2]
            generalize bitAt E.I (i + j) * 2 ^ j = z at hb1
            exact IntWalk.wrap64_in _ (by omega)
          have e3 : ((bitAt E.I (i + j) : Int) * 2 ^ j) < 4294967296 := by
            have e2 : ((bitAt E.I (i + j) : Int) * 2 ^ j) = ((bitAt E.I (i + j) * 2 ^ j : Nat) : Int) := by simp
            rw [e2]
            generalize bitAt E.I (i + j) * 2 ^ j = z at hb1
            omega
          have e4 : ((numAt E.I i j : Nat) : Int) < 2 ^ j := by exact_mod_cast hnl
          rw [e1, or_add j _ _ (by omega) e4 (by omega) e3 (by omega), numAt_snoc]
          simp
        case measure => simp [intOf]; omega
      · go_wp2_with fail
        exact ⟨rfl, Or.inr ⟨by omega, rfl⟩, hf.trans f1⟩
    · have : j = n := by omega
      subst this
      go_wp2_with fail
      go_ret
      exact ⟨Or.inl ⟨hij, rfl, hr⟩, hf⟩

end Go.Proofs.YtdpobjgfnhjagaaDoor

