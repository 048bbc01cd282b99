import Derived.Test.YtdpobjgfnhjagaaDoorMd
import Derived.BigRegion
import Derived.Shelf.Small.Bits
import Derived.Test.YtdpobjgfnhjagaaDoorProg
import Derived.BigQuiet
import Derived.Deep.QuietTactic
namespace Go.Proofs.YtdpobjgfnhjagaaDoor
open Go.RowKit

theorem getD_app (a : List Nat) (b j : Nat) (h : j < a.length) : (a ++ [b]).getD j 0 = a.getD j 0 := by
  simp only [List.getD, List.getElem?_append_left h]
theorem getD_app_at (a : List Nat) (b : Nat) : (a ++ [b]).getD a.length 0 = b := by simp [List.getD]
theorem getD_app_big (a : List Nat) (b j : Nat) (h : a.length < j) : (a ++ [b]).getD j 0 = 0 := by
  simp only [List.getD, List.getElem?_append_right (Nat.le_of_lt h), List.getElem?_eq_none (show [b].length ≤ j - a.length by simp; omega), Option.getD_none]
theorem getD_big (a : List Nat) (j : Nat) (h : a.length ≤ j) : a.getD j 0 = 0 := by
  simp only [List.getD, List.getElem?_eq_none h, Option.getD_none]

theorem byteOf_app (bs : List Nat) (b k : Nat) (h : 8 * k + 8 ≤ bs.length) : byteOf (bs ++ [b]) k = byteOf bs k := by
  unfold byteOf
  rw [getD_app _ _ _ (by omega), getD_app _ _ _ (by omega), getD_app _ _ _ (by omega), getD_app _ _ _ (by omega), getD_app _ _ _ (by omega), getD_app _ _ _ (by omega), getD_app _ _ _ (by omega), getD_app _ _ _ (by omega)]

theorem pack_get (bs : List Nat) (k : Nat) (h : k < (bs.length + 7) / 8) : (pack bs)[k]? = some (UInt8.ofNat (byteOf bs k)) := by
  simp [pack, h]

/-- One bit more, in a byte of its own. -/
theorem pack_new (bs : List Nat) (b : Nat) (h : bs.length % 8 = 0) : pack (bs ++ [b]) = pack bs ++ [UInt8.ofNat b] := by
  obtain ⟨m, hm⟩ : ∃ m, bs.length = 8 * m := ⟨bs.length / 8, by omega⟩
  apply List.ext_getElem?
  intro k
  have hl : (pack bs).length = m := by rw [pack_length]; omega
  have hl2 : (bs ++ [b]).length = 8 * m + 1 := by simp [hm]
  rcases Nat.lt_trichotomy k m with c | c | c
  · rw [pack_get _ _ (by omega), List.getElem?_append_left (by omega), pack_get _ _ (by omega), byteOf_app _ _ _ (by omega)]
  · subst c
    rw [pack_get _ _ (by omega), List.getElem?_append_right (by omega), hl]
    simp only [Nat.sub_self, List.getElem?_cons_zero]
    congr 2
    unfold byteOf
    rw [← hm, getD_app_at, getD_app_big _ _ _ (by omega), getD_app_big _ _ _ (by omega), getD_app_big _ _ _ (by omega), getD_app_big _ _ _ (by omega), getD_app_big _ _ _ (by omega), getD_app_big _ _ _ (by omega), getD_app_big _ _ _ (by omega)]
    omega
  · rw [List.getElem?_eq_none (by rw [pack_length]; omega), List.getElem?_eq_none (by simp; omega)]

/-- One bit more, in the last byte. -/
theorem byteOf_more (bs : List Nat) (b m r : Nat) (h2 : ∀ x ∈ bs, x < 2) (h : bs.length = 8 * m + r) (hr : r < 8) : byteOf (bs ++ [b]) m = byteOf bs m + b * 2 ^ r ∧ byteOf bs m < 2 ^ r := by
  have hd : ∀ j, bs.getD j 0 < 2 := fun j => getD_lt h2 (by omega) j
  have b0 := hd (8 * m)
  have b1 := hd (8 * m + 1)
  have b2 := hd (8 * m + 2)
  have b3 := hd (8 * m + 3)
  have b4 := hd (8 * m + 4)
  have b5 := hd (8 * m + 5)
  have b6 := hd (8 * m + 6)
  have b7 := hd (8 * m + 7)
  have key : ∀ j, (bs ++ [b]).getD (8 * m + j) 0 = if j < r then bs.getD (8 * m + j) 0 else if j = r then b else 0 := by
    intro j
    by_cases c : j < r
    · rw [if_pos c, getD_app _ _ _ (by omega)]
    · rw [if_neg c]
      by_cases c2 : j = r
      · rw [if_pos c2, c2, ← h, getD_app_at]
      · rw [if_neg c2, getD_app_big _ _ _ (by omega)]
  have key2 : ∀ j, r ≤ j → bs.getD (8 * m + j) 0 = 0 := fun j hj => getD_big _ _ (by omega)
  have k0 := key 0
  have k1 := key 1
  have k2 := key 2
  have k3 := key 3
  have k4 := key 4
  have k5 := key 5
  have k6 := key 6
  have k7 := key 7
  rw [Nat.add_zero] at k0
  have z0 := key2 0
  rw [Nat.add_zero] at z0
  have z1 := key2 1
  have z2 := key2 2
  have z3 := key2 3
  have z4 := key2 4
  have z5 := key2 5
  have z6 := key2 6
  have z7 := key2 7
  unfold byteOf
  rw [k0, k1, k2, k3, k4, k5, k6, k7]
  match r, hr with
  | 0, _ => simp at *; omega
  | 1, _ => simp at *; omega
  | 2, _ => simp at *; omega
  | 3, _ => simp at *; omega
  | 4, _ => simp at *; omega
  | 5, _ => simp at *; omega
  | 6, _ => simp at *; omega
  | 7, _ => simp at *; omega

theorem pack_more (bs : List Nat) (b m r : Nat) (h2 : ∀ x ∈ bs, x < 2) (h : bs.length = 8 * m + r) (hr : r < 8) (hr0 : 0 < r) : pack (bs ++ [b]) = (pack bs).set m (UInt8.ofNat (byteOf bs m + b * 2 ^ r)) := by
  apply List.ext_getElem?
  intro k
  have hl : (pack bs).length = m + 1 := by rw [pack_length]; omega
  have hl2 : (bs ++ [b]).length = 8 * m + r + 1 := by simp [h]
  rcases Nat.lt_trichotomy k m with c | c | c
  · rw [pack_get _ _ (by omega), List.getElem?_set_ne (by omega), pack_get _ _ (by omega), byteOf_app _ _ _ (by omega)]
  · subst c
    rw [pack_get _ _ (by omega), List.getElem?_set_self (by omega), (byteOf_more bs b k r h2 h hr).1]
  · rw [List.getElem?_eq_none (by rw [pack_length]; omega), List.getElem?_eq_none (by simp; omega)]

/-- The output in block B: these bits were put. -/
def OutAt (B : Nat) (w : World) (bs : List Nat) : Prop :=
  (∀ x ∈ bs, x < 2) ∧ ∃ ov, w.heap[B]? = some (.cells #[ov, .int .i64 ((8 * (pack bs).length - bs.length : Nat) : Int)] 62 (0, 0)) ∧ w.ownsRow (B + 1) 5 1 ov (pack bs).length (bv8 (pack bs))

theorem or_u8 (a b r : Nat) (hr : r < 8) (ha : a < 2 ^ r) (hb : b < 2) : bits .or .u8 (a : Int) ((b * 2 ^ r : Nat) : Int) = ((a + b * 2 ^ r : Nat) : Int) := by
  have key : ∀ r : Fin 8, ∀ b : Fin 2, ∀ a : Fin 128, a.val < 2 ^ r.val → bits .or .u8 (a.val : Int) ((b.val * 2 ^ r.val : Nat) : Int) = ((a.val + b.val * 2 ^ r.val : Nat) : Int) := by decide +kernel
  have hp : 2 ^ r ≤ 2 ^ 7 := Nat.pow_le_pow_right (by omega) (by omega)
  exact key ⟨r, hr⟩ ⟨b, hb⟩ ⟨a, by omega⟩ ha

set_option maxRecDepth 100000 in
set_option maxHeartbeats 1000000 in
theorem bit_in (B g m cap r b y : Nat) (w : World) (h : w.heap[B]? = some (.cells #[.slice (some ⟨g, 0, none⟩) (m + 1) cap, .int .i64 ((8 - r : Nat) : Int)] 62 (0, 0))) (hgB : g ≠ B) (hr0 : 0 < r) (hr : r < 8) (hb : b < 2) (hm : m < 1000000)
    (hy : w.cell? ⟨g, m, none⟩ = some (.int .u8 (y : Int))) (hyr : y < 2 ^ r) (hfz : ∀ i, w.frozen? ⟨g, i, none⟩ = false) :
    Calls Tryd.prog 46 #[.pointer (some ⟨B, 0, none⟩), .int .i64 (b : Int)] w fun e w' => e = .returned (.tuple #[]) ∧ w' = ((w.setCell ⟨g, m, none⟩ (.int .u8 ((y + b * 2 ^ r : Nat) : Int))).setCell ⟨B, 1, none⟩ (.int .i64 ((8 - (r + 1) : Nat) : Int))).drew := by
  have c0 : w.cell? ⟨B, 0, none⟩ = some (.slice (some ⟨g, 0, none⟩) (m + 1) cap) := cell_of_heap h 0
  have c1 : w.cell? ⟨B, 1, none⟩ = some (.int .i64 ((8 - r : Nat) : Int)) := cell_of_heap h 1
  have fB := free_of_heap h
  have hBl := lt_of_heap h
  have hgl := lt_of_cell hy
  clear h
  obtain ⟨f, hf⟩ : ∃ f, 8 - r = f := ⟨_, rfl⟩
  rw [hf] at c1
  have hf0 : ((f : Int) == 0) = false := by simp; omega
  have hm1 : ((m + 1 : Nat) : Int) - 1 = (m : Int) := by omega
  have hmm : (m : Int) < (m : Int) + 1 := by omega
  have hwm : IntKind.i64.wrap (m : Int) = (m : Int) := by rw [IntKind.wrap_i64]; omega
  have hwf : IntKind.i64.wrap (8 - (f : Int)) = (r : Int) := by rw [IntKind.wrap_i64]; omega
  go_enter Tryd.func46, Tryd.ntmps46
  go_wp2_with fail
  go_region
  go_wp2_with fail
  go_end0
  refine ⟨rfl, ?_⟩
  have hp : 2 ^ r ≤ 2 ^ 7 := Nat.pow_le_pow_right (by omega) (by omega)
  have hbr : b * 2 ^ r ≤ 128 := by
    have : b * 2 ^ r ≤ 1 * 2 ^ r := Nat.mul_le_mul_right _ (by omega)
    omega
  have e1 : ((b : Int) * 2 ^ r % 256) = ((b * 2 ^ r : Nat) : Int) := by
    have : ((b : Int) * 2 ^ r) = ((b * 2 ^ r : Nat) : Int) := by simp
    rw [this]
    generalize b * 2 ^ r = z at hbr
    omega
  rw [e1, or_u8 y b r hr hyr hb, show ((f : Int) - 1) = ((8 - (r + 1) : Nat) : Int) by omega]

theorem own_cell {w : World} {base : Nat} {e : TypeId} {g k cap : Nat} {ys : List Value} (h : w.ownsRow base e 1 (.slice (some ⟨g, 0, none⟩) k cap) k ys) (i : Nat) (hi : i < k) : w.cell? ⟨g, i, none⟩ = ys[i]? := by
  rcases h.2 with ⟨h1, _⟩ | ⟨g', cap', cur, h1, h2, h3, h4, h5, h6, h7⟩
  · cases h1
  · simp at h1
    obtain ⟨rfl, rfl⟩ := h1
    rw [cell_of_heap h3]
    have e : (cur.toList.take (k * 1))[i]? = ys[i]? := by rw [h7]
    rw [List.getElem?_take, if_pos (by omega)] at e
    simpa using e
theorem own_free {w : World} {base : Nat} {e : TypeId} {g k cap : Nat} {ys : List Value} (h : w.ownsRow base e 1 (.slice (some ⟨g, 0, none⟩) k cap) k ys) (i : Nat) : w.frozen? ⟨g, i, none⟩ = false := by
  rcases h.2 with ⟨h1, _⟩ | ⟨g', cap', cur, h1, h2, h3, h4⟩
  · cases h1
  · simp at h1
    obtain ⟨rfl, rfl⟩ := h1
    exact free_of_heap h3 i
theorem own_set {w : World} {base : Nat} {e : TypeId} {g k cap : Nat} {ys : List Value} (h : w.ownsRow base e 1 (.slice (some ⟨g, 0, none⟩) k cap) k ys) (i : Nat) (v : Value) : (w.setCell ⟨g, i, none⟩ v).ownsRow base e 1 (.slice (some ⟨g, 0, none⟩) k cap) k (ys.set i v) := by
  refine ⟨by have := h.1; simpa using this, ?_⟩
  rcases h.2 with ⟨h3, _⟩ | ⟨g', cap', cur, hv, hb, hh, h4, h5, h6, h7⟩
  · cases h3
  · simp at hv
    obtain ⟨rfl, rfl⟩ := hv
    refine Or.inr ⟨g, cap, _, rfl, hb, heap_set hh i _, h4, h5, by simpa using h6, ?_⟩
    rw [← h7]
    simp only [Array.toList_setIfInBounds, List.take_set]
theorem own_heap {w : World} {base : Nat} {e : TypeId} {g k cap : Nat} {ys : List Value} (h : w.ownsRow base e 1 (.slice (some ⟨g, 0, none⟩) k cap) k ys) : ∃ cur, w.heap[g]? = some (.cells cur e (0, 0)) ∧ base ≤ g := by
  rcases h.2 with ⟨h3, _⟩ | ⟨g', cap', cur, hv, hb, hh, r⟩
  · cases h3
  · simp at hv
    obtain ⟨rfl, rfl⟩ := hv
    exact ⟨cur, hh, hb⟩

theorem or_zero_u8 (b : Nat) (hb : b < 2) : bits .or .u8 (0 : Int) (b : Int) = (b : Int) := by
  have key : ∀ b : Fin 2, bits .or .u8 (0 : Int) (b.val : Int) = (b.val : Int) := by decide +kernel
  exact key ⟨b, hb⟩

set_option maxRecDepth 100000 in
set_option maxHeartbeats 2000000 in
theorem bit_new (B n b : Nat) (ov : Value) (xs : List Value) (w : World) (h : w.heap[B]? = some (.cells #[ov, .int .i64 0] 62 (0, 0))) (hown : w.ownsRow (B + 1) 5 1 ov n xs) (hb : b < 2) (hn : n < 1000000) :
    Calls Tryd.prog 46 #[.pointer (some ⟨B, 0, none⟩), .int .i64 (b : Int)] w fun e w' => e = .returned (.tuple #[]) ∧ ∃ ov', w'.heap[B]? = some (.cells #[ov', .int .i64 7] 62 (0, 0)) ∧ w'.ownsRow (B + 1) 5 1 ov' (n + 1) (xs ++ [.int .u8 (b : Int)]) ∧ Kp B w w' := by
  obtain ⟨ao, cp, rfl⟩ := owns_slice hown
  obtain ⟨i0, hi, hz0, hz1, hz2⟩ := info_parts info5
  have c0 : w.cell? ⟨B, 0, none⟩ = some (.slice ao n cp) := cell_of_heap h 0
  have c1 : w.cell? ⟨B, 1, none⟩ = some (.int .i64 0) := cell_of_heap h 1
  have fB := free_of_heap h
  have hBl := lt_of_heap h
  have hxl := hown.1
  have H : Hid (w.heap[B]? = some (.cells #[.slice ao n cp, .int .i64 0] 62 (0, 0))) := h; clear h
  have HO : Hid (w.ownsRow (B + 1) 5 1 (.slice ao n cp) n xs) := hown; clear hown
  have HXL : Hid _ := hxl; clear hxl
  go_enter Tryd.func46, Tryd.ntmps46
  go_wp2_with (at_builtin; refine wpList_append_own _ rfl (.tmp 13) (.tmp 14) 25 rfl (B + 1) 5 i0 (.int .u8 0) 1 1 underlying25 hi hz0 hz1 hz2 rfl (by decide) (.slice ao n cp) n xs rfl ?own ⟨w.heap.size, 0, none⟩ 1 1 [.int .u8 0] rfl rfl ?c1 ?c2 ?b1 ?b2 ?b3 ?grow)
  case own => exact owns_keep HO.out (fun g _ hg => heap_alloc_old hg _)
  case c1 => exact one_new rfl _ _
  case c2 => intro u hu; simp at hu; subst hu; rfl
  case b1 => unfold maxLen; omega
  case b2 => omega
  case b3 => simp; omega
  case grow =>
    intro v' w' hown hgrow _
    obtain ⟨g, cap', rfl⟩ : ∃ g cap', v' = .slice (some ⟨g, 0, none⟩) (n + 1) cap' := by
      rcases hown.2 with ⟨_, h⟩ | ⟨g, cap', _, h, _⟩
      · omega
      · exact ⟨g, cap', h⟩
    have hBk : w'.heap[B]? = some (.cells #[.slice ao n cp, .int .i64 0] 62 (0, 0)) := by
      rw [hgrow.block B (by show B < (w.heap.push _).size; simp; omega) (fun e => by have := (owns_block HO.out e.symm).1; omega)]
      exact (heap_alloc_old hBl _).trans H.out
    have hfr : Fr (fun k => k = B ∨ (Value.slice ao n cp).ownBlock = some k) w w' := ((Fr.refl _ w).alloc _).grown hgrow (fun k hk _ => Or.inr hk)
    have hkp : Kp B w w' := Kp.put hBl HO.out hfr
    have d0 : w'.cell? ⟨B, 0, none⟩ = some (.slice ao n cp) := cell_of_heap hBk 0
    have d1 : w'.cell? ⟨B, 1, none⟩ = some (.int .i64 0) := cell_of_heap hBk 1
    have fB' := free_of_heap hBk
    have hBl' := lt_of_heap hBk
    have hgB : g ≠ B := by have := (owns_block hown (g := g) rfl).1; omega
    have hy : w'.cell? ⟨g, n, none⟩ = some (.int .u8 0) := by
      rw [own_cell hown n (by omega), List.getElem?_append_right (by have := HXL.out; omega), show n - xs.length = 0 by have := HXL.out; omega]
      rfl
    have hfz := own_free hown
    have hgl := lt_of_cell hy
    have K : Hid (w'.heap[B]? = some (.cells #[.slice ao n cp, .int .i64 0] 62 (0, 0))) := hBk; clear hBk
    have HN : Hid (w'.ownsRow (B + 1) 5 1 (.slice (some ⟨g, 0, none⟩) (n + 1) cap') (n + 1) (xs ++ [.int .u8 0])) := hown; clear hown
    clear hgrow hfr
    have hm1 : ((n + 1 : Nat) : Int) - 1 = (n : Int) := by omega
    have hmm : (n : Int) < (n : Int) + 1 := by omega
    have hwm : IntKind.i64.wrap (n : Int) = (n : Int) := by rw [IntKind.wrap_i64]; omega
    go_wp2_with fail
    go_region
    go_wp2_with fail
    go_end0
    have hor := or_zero_u8 b hb
    refine ⟨rfl, .slice (some ⟨g, 0, none⟩) (n + 1) cap', ?_, ?_, ?_⟩
    · have h1 := heap_set (heap_set K.out 0 (.slice (some ⟨g, 0, none⟩) (n + 1) cap')) 1 (.int .i64 8)
      have h2 := (heap_set_other (fun e => hgB e.symm) n (.int .u8 (bits BinOp.or IntKind.u8 0 (b : Int)))).trans h1
      exact heap_set h2 1 (.int .i64 7)
    · have h1 := owns_keep (w' := (w'.setCell ⟨B, 0, none⟩ (.slice (some ⟨g, 0, none⟩) (n + 1) cap')).setCell ⟨B, 1, none⟩ (.int .i64 8)) HN.out (fun q hq _ => by
        simp [Value.ownBlock] at hq
        exact (heap_set_other (by omega) _ _).trans (heap_set_other (by omega) _ _))
      have h2 := own_set h1 n (.int .u8 (bits BinOp.or IntKind.u8 0 (b : Int)))
      rw [hor] at h2 ⊢
      have e : (xs ++ [Value.int .u8 0]).set n (.int .u8 (b : Int)) = xs ++ [.int .u8 (b : Int)] := by
        have := HXL.out
        rw [List.set_append_right _ _ (by omega), show n - xs.length = 0 by omega]
        rfl
      rw [e] at h2
      exact owns_keep h2 (fun q hq _ => by
        simp [Value.ownBlock] at hq
        exact heap_set_other (by omega) _ _)
    · obtain ⟨cur, hcur, hbg⟩ := own_heap HN.out
      refine hkp.trans ⟨?_, fun k arr t f h1 h2 h3 => ?_⟩
      · exact (((((Below.refl B w').setCell (p := ⟨B, 0, none⟩) (Nat.le_refl _) _).setCell (p := ⟨B, 1, none⟩) (Nat.le_refl _) _).setCell (p := ⟨g, n, none⟩) (by show B ≤ g; omega) _).setCell (p := ⟨B, 1, none⟩) (Nat.le_refl _) _).drew
      · have hkg : k ≠ g := by
          rintro rfl
          rw [h3] at hcur
          simp at hcur
          exact h2 hcur.2.1
        exact (heap_set_other (by omega) _ _).trans ((heap_set_other hkg _ _).trans ((heap_set_other (by omega) _ _).trans ((heap_set_other (by omega) _ _).trans h3)))

theorem bv8_pack_set (l : List UInt8) (m x : Nat) (hx : x < 256) : (bv8 l).set m (.int .u8 (x : Int)) = bv8 (l.set m (UInt8.ofNat x)) := by
  have e : (UInt8.ofNat x).toNat = x := by simp; omega
  simp only [bv8, List.map_set, e]

theorem bit_put (B b : Nat) (bs : List Nat) (w : World) (h : OutAt B w bs) (hb : b < 2) (hl : bs.length < 7000000) :
    Calls Tryd.prog 46 #[.pointer (some ⟨B, 0, none⟩), .int .i64 (b : Int)] w fun e w' => e = .returned (.tuple #[]) ∧ OutAt B w' (bs ++ [b]) ∧ Kp B w w' := by
  obtain ⟨h2, ov, hh, ho⟩ := h
  have h2' : ∀ x ∈ bs ++ [b], x < 2 := fun x hx => by
    rcases List.mem_append.1 hx with h | h
    · exact h2 x h
    · simp at h; omega
  have hpl := pack_length bs
  have hpl2 := pack_length (bs ++ [b])
  rw [List.length_append, List.length_singleton] at hpl2
  by_cases hr : bs.length % 8 = 0
  · have e0 : 8 * (pack bs).length - bs.length = 0 := by omega
    rw [e0] at hh
    refine (bit_new B (pack bs).length b ov _ w hh ho hb (by omega)).mono ?_
    rintro e w' ⟨rfl, ov', k1, k2, k3⟩
    refine ⟨rfl, ⟨h2', ov', ?_, ?_⟩, k3⟩
    · rw [k1, List.length_append, List.length_singleton, show 8 * (pack (bs ++ [b])).length - (bs.length + 1) = 7 by omega]
      rfl
    · rw [pack_new bs b hr, List.length_append, bv8_append]
      have eb : bv8 [UInt8.ofNat b] = [.int .u8 (b : Int)] := by
        have : (UInt8.ofNat b).toNat = b := by simp; omega
        simp only [bv8, List.map_cons, List.map_nil, this]
      rw [eb]
      exact k2
  · obtain ⟨m, r, hm, hr8⟩ : ∃ m r, bs.length = 8 * m + r ∧ r < 8 := ⟨bs.length / 8, bs.length % 8, by omega, by omega⟩
    have hr0 : 0 < r := by omega
    have hn : (pack bs).length = m + 1 := by omega
    obtain ⟨q1, q2⟩ := byteOf_more bs b m r h2 hm hr8
    have hp : 2 ^ r ≤ 2 ^ 7 := Nat.pow_le_pow_right (by omega) (by omega)
    have hbr : b * 2 ^ r ≤ 128 := by
      have : b * 2 ^ r ≤ 1 * 2 ^ r := Nat.mul_le_mul_right _ (by omega)
      omega
    have hfree : 8 * (pack bs).length - bs.length = 8 - r := by omega
    rw [hfree] at hh
    rw [hn] at ho
    obtain ⟨g, cap, rfl⟩ : ∃ g cap, ov = .slice (some ⟨g, 0, none⟩) (m + 1) cap := by
      rcases ho.2 with ⟨_, h⟩ | ⟨g, cap', _, h, _⟩
      · omega
      · exact ⟨g, cap', h⟩
    obtain ⟨cur, hcur, hbg⟩ := own_heap ho
    have hy : w.cell? ⟨g, m, none⟩ = some (.int .u8 ((byteOf bs m : Nat) : Int)) := by
      rw [own_cell ho m (by omega)]
      have : (UInt8.ofNat (byteOf bs m)).toNat = byteOf bs m := by simp; omega
      simp only [bv8, List.getElem?_map, pack_get bs m (by omega), Option.map_some, this]
    refine (bit_in B g m cap r b (byteOf bs m) w hh (by omega) hr0 hr8 hb (by omega) hy q2 (own_free ho)).mono ?_
    rintro e w' ⟨rfl, rfl⟩
    refine ⟨rfl, ⟨h2', .slice (some ⟨g, 0, none⟩) (m + 1) cap, ?_, ?_⟩, ?_⟩
    · have h5 := heap_set ((heap_set_other (show B ≠ g by omega) m (.int .u8 ((byteOf bs m + b * 2 ^ r : Nat) : Int))).trans hh) 1 (.int .i64 ((8 - (r + 1) : Nat) : Int))
      rw [List.length_append, List.length_singleton, show 8 * (pack (bs ++ [b])).length - (bs.length + 1) = 8 - (r + 1) by omega]
      exact h5
    · rw [show (pack (bs ++ [b])).length = m + 1 by omega, pack_more bs b m r h2 hm hr8 hr0, ← bv8_pack_set _ _ _ (by omega)]
      exact owns_keep (own_set ho m (.int .u8 ((byteOf bs m + b * 2 ^ r : Nat) : Int))) (fun q hq _ => by
        simp [Value.ownBlock] at hq
        exact heap_set_other (by omega) _ _)
    · refine ⟨(((Below.refl B w).setCell (p := ⟨g, m, none⟩) (by show B ≤ g; omega) _).setCell (p := ⟨B, 1, none⟩) (Nat.le_refl _) _).drew, fun k arr t f h1 h2 h3 => ?_⟩
      have hkg : k ≠ g := by
        rintro rfl
        rw [h3] at hcur
        simp at hcur
        exact h2 hcur.2.1
      exact (heap_set_other (by omega) _ _).trans ((heap_set_other hkg _ _).trans h3)

end Go.Proofs.YtdpobjgfnhjagaaDoor

namespace Go.Proofs.YtdpobjgfnhjagaaDoor
open Go.RowKit

/-- Bit i of a number, whatever its sign. -/
def nb (v : Int) (i : Nat) : Nat := (v / 2 ^ i % 2).toNat
theorem nb_lt (v : Int) (i : Nat) : nb v i < 2 := by unfold nb; omega

theorem and_one_i64 (x : Int) : bits .and .i64 x 1 = x % 2 := by
  show IntKind.i64.wrap ((BitVec.ofInt 64 x &&& BitVec.ofInt 64 1).toNat : Int) = _
  rw [BitVec.toNat_and, show (BitVec.ofInt 64 1).toNat = 1 from rfl, Nat.and_one_is_mod, BitVec.toNat_ofInt, IntKind.wrap_i64]
  have e : ((2 ^ 64 : Nat) : Int) = 18446744073709551616 := rfl
  rw [e]
  omega

theorem nb_and (v : Int) (i : Nat) : bits .and .i64 (v / 2 ^ i) 1 = ((nb v i : Nat) : Int) := by
  rw [and_one_i64]
  unfold nb
  omega

set_option maxRecDepth 100000 in
set_option maxHeartbeats 1000000 in
theorem number_raw (B n : Nat) (v : Int) (bs : List Nat) (w : World) (h : OutAt B w bs) (hn : n ≤ 32) (hl : bs.length < 6000000) :
    Calls Tryd.prog 27 #[.pointer (some ⟨B, 0, none⟩), .int .i64 v, .int .i64 (n : Int)] w fun e w' => e = .returned (.tuple #[]) ∧ OutAt B w' (bs ++ (List.range n).map (nb v)) ∧ Kp B w w' := by
  go_enter Tryd.func27, Tryd.ntmps27
  go_wp2_with fail
  go_loopw [8] (fun i wr => ∃ k : Nat, k ≤ n ∧ i = .int .i64 k ∧ OutAt B wr (bs ++ (List.range k).map (nb v)) ∧ Kp B w wr) (fun i _ => n - (intOf i).toNat)
  case atStart => exact ⟨0, by omega, rfl, by simpa using h, Kp.refl _ _⟩
  case round =>
    obtain ⟨k, hk, rfl, ho, hkp⟩ := hrel
    by_cases hlt : k < n
    · go_wp2_with fail
      rw [nb_and]
      refine (bit_put B (nb v k) _ wr ho (nb_lt _ _) (by simp; omega)).mono ?_
      rintro e w1 ⟨rfl, o1, k1⟩
      go_wp2_with fail
      go_roundw
      case rel =>
        refine ⟨k + 1, by omega, by go_num, ?_, hkp.trans k1⟩
        rw [List.range_succ, List.map_append, ← List.append_assoc]
        exact o1
      case measure => simp [intOf]; omega
    · have : k = n := by omega
      subst this
      go_wp2_with fail
      go_end0
      exact ⟨rfl, ho, hkp⟩

theorem lsb_map (n v : Nat) : (List.range n).map (nb (v : Int)) = lsb n v := by
  induction n generalizing v with
  | zero => rfl
  | succ n ih =>
    rw [lsb, ← ih (v / 2), List.range_succ_eq_map, List.map_cons, List.map_map]
    congr 1
    · unfold nb; omega
    · refine List.map_congr_left fun i _ => ?_
      show nb (v : Int) (i + 1) = nb ((v / 2 : Nat) : Int) i
      unfold nb
      rw [Int.pow_succ, Int.mul_comm (2 ^ i) 2, ← Int.ediv_ediv_of_nonneg (by omega)]
      rfl

theorem number_put (B n v : Nat) (bs : List Nat) (w : World) (h : OutAt B w bs) (hn : n ≤ 32) (hl : bs.length < 6000000) :
    Calls Tryd.prog 27 #[.pointer (some ⟨B, 0, none⟩), .int .i64 (v : Int), .int .i64 (n : Int)] w fun e w' => e = .returned (.tuple #[]) ∧ OutAt B w' (bs ++ lsb n v) ∧ Kp B w w' := by
  have := number_raw B n (v : Int) bs w h hn hl
  rw [lsb_map] at this
  exact this

theorem lsb_not (v : Nat) (hv : v < 65536) : (List.range 16).map (nb (-(v : Int) - 1)) = lsb 16 (65535 - v) := by
  rw [← lsb_map]
  refine List.map_congr_left fun i hi => ?_
  have hi2 : i < 16 := List.mem_range.1 hi
  clear hi
  unfold nb
  have e : ((65535 - v : Nat) : Int) = (-(v : Int) - 1) + 65536 := by omega
  rw [e]
  match i, hi2 with
  | 0, _ => simp only [Int.pow_zero]; omega
  | 1, _ => simp only [Int.reducePow]; omega
  | 2, _ => simp only [Int.reducePow]; omega
  | 3, _ => simp only [Int.reducePow]; omega
  | 4, _ => simp only [Int.reducePow]; omega
  | 5, _ => simp only [Int.reducePow]; omega
  | 6, _ => simp only [Int.reducePow]; omega
  | 7, _ => simp only [Int.reducePow]; omega
  | 8, _ => simp only [Int.reducePow]; omega
  | 9, _ => simp only [Int.reducePow]; omega
  | 10, _ => simp only [Int.reducePow]; omega
  | 11, _ => simp only [Int.reducePow]; omega
  | 12, _ => simp only [Int.reducePow]; omega
  | 13, _ => simp only [Int.reducePow]; omega
  | 14, _ => simp only [Int.reducePow]; omega
  | 15, _ => simp only [Int.reducePow]; omega
  | i + 16, h => exact absurd h (by omega)

/-- A code in memory: the lengths and the words. -/
structure CdAt (w : World) (gl ol gw : Nat) (lens : List Nat) : Prop where
  len : IntsAt w gl ol (ni lens)
  word : IntsAt w gw 0 (ni (tab (wordOf lens) lens.length))

set_option maxRecDepth 100000 in
set_option maxHeartbeats 1000000 in
theorem symbol_put (B gl ol gw cl cw s : Nat) (lens : List Nat) (bs : List Nat) (w : World) (h : OutAt B w bs) (hC : CdAt w gl ol gw lens) (_hglB : gl ≠ B) (_hgwB : gw ≠ B) (hkl : ∀ w', Kp B w w' → CdAt w' gl ol gw lens)
    (hx : ∀ x ∈ lens, x < 16) (hlen : lens.length ≤ 320) (hs : s < lens.length) (h0 : gd lens s ≠ 0) (hl : bs.length < 6000000) :
    Calls Tryd.prog 52 #[.pointer (some ⟨B, 0, none⟩), .agg #[.slice (some ⟨gl, ol, none⟩) lens.length cl, .slice (some ⟨gw, 0, none⟩) lens.length cw], .int .i64 (s : Int)] w fun e w' => e = .returned (.tuple #[]) ∧ OutAt B w' (bs ++ codeBits lens s) ∧ Kp B w w' := by
  have hx16 := gd_lt hx (by omega) s
  have hwc := wordOf_code lens hx hlen s hs h0
  obtain ⟨k0, hk0⟩ : ∃ k0, gd lens s = k0 + 1 := ⟨gd lens s - 1, by omega⟩
  have hcb : codeBits lens s = msb (k0 + 1) (wordOf lens s) := by
    unfold codeBits
    rw [show lens.getD s 0 = k0 + 1 from hk0, hwc]
  have hBl : B < w.heap.size := by obtain ⟨_, _, q, _⟩ := h; exact lt_of_heap q
  have hwl : ∀ W, CdAt W gl ol gw lens → W.cell? ⟨gl, ol + s, none⟩ = some (.int .i64 ((k0 + 1 : Nat) : Int)) ∧ W.cell? ⟨gw, s, none⟩ = some (.int .i64 ((wordOf lens s : Nat) : Int)) := by
    intro W hW
    have c1 := hW.len.cell s (by rw [ni_length]; exact hs)
    have c2 := hW.word.cell s (by rw [ni_length, tab_length]; exact hs)
    rw [ni_getD, show lens.getD s 0 = k0 + 1 from hk0] at c1
    rw [ni_getD, Nat.zero_add, show (tab (wordOf lens) lens.length).getD s 0 = wordOf lens s from gd_tab _ _ _ hs] at c2
    exact ⟨c1, c2⟩
  obtain ⟨a0, a1⟩ := hwl w hC
  have hgl := hC.len.lt
  have hgw := hC.word.lt
  rw [hcb]
  have hk15 : k0 < 15 := by omega
  obtain ⟨R, hR⟩ : ∃ R, bs ++ msb (k0 + 1) (wordOf lens s) = R := ⟨_, rfl⟩
  have hRl : R.length = bs.length + (k0 + 1) := by rw [← hR, List.length_append, msb_length]
  rw [hR]
  have HR : Hid _ := hR; clear hR
  have HRL : Hid _ := hRl; clear hRl
  clear hcb hwc hk0 h0
  have hsl : (s : Int) < (lens.length : Int) := by omega
  have hKA : ∀ o, Kp B w (w.alloc o) := fun o => Kp.one hBl ((Fr.refl _ w).alloc o)
  go_enter Tryd.func52, Tryd.ntmps52
  go_wp2_with fail
  go_loopw [6] (fun i wr => ∃ k : Nat, k ≤ k0 + 1 ∧ i = .int .i64 ((k : Int) - 1) ∧ (∃ bs2, OutAt B wr bs2 ∧ Hid (bs2 ++ msb k (wordOf lens s) = R)) ∧ wr.heap[w.heap.size]? = some (.cells #[.slice (some ⟨gl, ol, none⟩) lens.length cl, .slice (some ⟨gw, 0, none⟩) lens.length cw] 70 (0, 0)) ∧ Kp B w wr) (fun i _ => (intOf i + 1).toNat)
  case atStart =>
    refine ⟨k0 + 1, Nat.le_refl _, by go_num, ⟨bs, ?_, HR.out⟩, heap_alloc_new _ _, hKA _⟩
    obtain ⟨q1, ov, q2, q3⟩ := h
    exact ⟨q1, ov, (heap_alloc_old hBl _).trans q2, owns_keep q3 (fun g _ hg => heap_alloc_old hg _)⟩
  case round =>
    obtain ⟨k, hk, rfl, ⟨bs2, ho, hbs⟩, hbx, hkp⟩ := hrel
    cases k with
    | zero =>
      have HB : Hid _ := hbx; clear hbx
      go_wp2_with fail
      go_end0
      have := hbs.out
      simp only [msb, List.append_nil] at this
      rw [← this]
      exact ⟨rfl, ho, hkp⟩
    | succ k =>
      obtain ⟨d0, d1⟩ := hwl wr (hkl wr hkp)
      have e0 : wr.cell? ⟨w.heap.size, 0, none⟩ = some (.slice (some ⟨gl, ol, none⟩) lens.length cl) := cell_of_heap hbx 0
      have e1 : wr.cell? ⟨w.heap.size, 1, none⟩ = some (.slice (some ⟨gw, 0, none⟩) lens.length cw) := cell_of_heap hbx 1
      have e2 : (((k + 1 : Nat) : Int) - 1) = (k : Int) := by omega
      rw [e2]
      have hb2 := hbs.out
      simp only [msb] at hb2
      have hnb : nb ((wordOf lens s : Nat) : Int) k = wordOf lens s / 2 ^ k % 2 := by
        unfold nb
        have : (((wordOf lens s : Nat) : Int) / 2 ^ k) = ((wordOf lens s / 2 ^ k : Nat) : Int) := by simp
        rw [this]
        omega
      have hlen2 : bs2.length ≤ bs.length + 20 := by
        have := congrArg List.length hb2
        simp only [List.length_append, List.length_cons, msb_length] at this
        have := HRL.out
        omega
      have HB2 : Hid _ := hb2; clear hb2
      have HNB : Hid _ := hnb; clear hnb
      have HB : Hid _ := hbx; clear hbx
      go_wp2_with fail
      rw [nb_and]
      refine (bit_put B (nb ((wordOf lens s : Nat) : Int) k) bs2 wr ho (nb_lt _ _) (by omega)).mono ?_
      rintro e w1 ⟨rfl, o1, k1⟩
      go_wp2_with fail
      go_roundw
      case rel =>
        refine ⟨k, by omega, by go_num, ⟨_, o1, ?_⟩, ?_, hkp.trans k1⟩
        · rw [HNB.out, List.append_assoc]; exact HB2.out
        · exact k1.other w.heap.size #[.slice (some ⟨gl, ol, none⟩) lens.length cl, .slice (some ⟨gw, 0, none⟩) lens.length cw] 70 (0, 0) hBl (by decide) HB.out
      case measure => simp [intOf]

end Go.Proofs.YtdpobjgfnhjagaaDoor

namespace Go.Proofs.YtdpobjgfnhjagaaDoor
open Go.Shelf
def lensRen : Go.Shelf.Ren := ⟨fun | 125 => 86 | 128 => 91 | 129 => 92 | n => n, fun | 46 => 24 | 3 => 3 | 51 => 87 | 53 => 136 | 4 => 4 | 5 => 5 | 9 => 9 | n => n, fun | n => n⟩
theorem lensLaid : Go.Proofs.Lays.n125 Tryd.prog lensRen := {
  mixed := by kernel_rfl
  f125 := Tryd.func86.trans (congrArg some (by kernel_rfl))
  f128 := Tryd.func91.trans (congrArg some (by kernel_rfl))
  f129 := Tryd.func92.trans (congrArg some (by kernel_rfl))
  t3 := Tryd.underlying3
  a3 := Tryd.isAgg3
  z3 := Tryd.sizeOf3
  v3 := Tryd.zeroValue3
  t4 := Tryd.underlying4
  a4 := Tryd.isAgg4
  z4 := Tryd.sizeOf4
  v4 := Tryd.zeroValue4
  t5 := Tryd.underlying5
  a5 := Tryd.isAgg5
  z5 := Tryd.sizeOf5
  v5 := Tryd.zeroValue5
  t9 := Tryd.underlying9
  a9 := Tryd.isAgg9
  z9 := Tryd.sizeOf9
  v9 := Tryd.zeroValue9
  t46 := Tryd.underlying24
  a46 := Tryd.isAgg24
  z46 := Tryd.sizeOf24
  v46 := Tryd.zeroValue24
  t51 := Tryd.underlying87
  a51 := Tryd.isAgg87
  z51 := Tryd.sizeOf87
  v51 := Tryd.zeroValue87
  t53 := Tryd.underlying136
  a53 := Tryd.isAgg136
  z53 := Tryd.sizeOf136
  v53 := Tryd.zeroValue136 }
theorem bits_len (x : Int) (w : World) (h0 : 0 ≤ x) (h1 : x ≤ 18446744073709551615) :
    Calls Tryd.prog 86 #[.int .u64 x] w fun e w' => e = .returned (.int .i64 (Lib.bitLen x.toNat)) ∧ w' = w := Any.bits_Len lensLaid x w h0 h1
end Go.Proofs.YtdpobjgfnhjagaaDoor

namespace Go.Proofs.YtdpobjgfnhjagaaDoor
open Go.RowKit

theorem bitLen_spec (f x : Nat) (hx : x < 2 ^ f) : (x = 0 → Lib.bitLenAux f x = 0) ∧ (0 < x → 1 ≤ Lib.bitLenAux f x ∧ 2 ^ (Lib.bitLenAux f x - 1) ≤ x ∧ x < 2 ^ Lib.bitLenAux f x) := by
  induction f generalizing x with
  | zero =>
    refine ⟨fun _ => rfl, fun h => ?_⟩
    simp at hx; omega
  | succ f ih =>
    simp only [Lib.bitLenAux]
    refine ⟨fun h => if_pos h, fun h => ?_⟩
    rw [if_neg (by omega)]
    rw [Nat.pow_succ] at hx
    obtain ⟨i1, i2⟩ := ih (x / 2) (by omega)
    by_cases c : x / 2 = 0
    · rw [i1 c]; simp; omega
    · obtain ⟨j1, j2, j3⟩ := i2 (by omega)
      generalize Lib.bitLenAux f (x / 2) = L at *
      obtain ⟨k, rfl⟩ : ∃ k, L = k + 1 := ⟨L - 1, by omega⟩
      rw [Nat.add_sub_cancel] at j2
      rw [show 1 + (k + 1) - 1 = k + 1 by omega, show 1 + (k + 1) = k + 1 + 1 by omega, Nat.pow_succ, Nat.pow_succ]
      rw [Nat.pow_succ] at j3
      omega

/-- The bits more of a number, g of a kind; its symbol, counted from 0; what is left. -/
def mre (n g : Nat) : Nat := Lib.bitLen (n / g) - 1
def stS (n g : Nat) : Nat := mre n g * g + n / 2 ^ mre n g
def stR (n g : Nat) : Nat := n % 2 ^ mre n g

theorem mre_spec (n g : Nat) (hn : n < 100000) : (n / g = 0 ∧ mre n g = 0) ∨ (2 ^ mre n g ≤ n / g ∧ n / g < 2 * 2 ^ mre n g) := by
  have hd : n / g ≤ n := Nat.div_le_self _ _
  obtain ⟨h1, h2⟩ := bitLen_spec 64 (n / g) (Nat.lt_of_le_of_lt hd (by omega))
  unfold mre Lib.bitLen
  by_cases c : n / g = 0
  · left
    rw [h1 c]
    exact ⟨c, rfl⟩
  · right
    obtain ⟨j1, j2, j3⟩ := h2 (Nat.pos_of_ne_zero c)
    refine ⟨j2, ?_⟩
    have : 2 * 2 ^ (Lib.bitLenAux 64 (n / g) - 1) = 2 ^ Lib.bitLenAux 64 (n / g) := by
      rw [Nat.mul_comm, ← Nat.pow_succ]
      congr 1
      omega
    omega
theorem mre_le (n g : Nat) (hn : n < 32768) (hg : g = 2 ∨ g = 4) : mre n g ≤ 13 := by
  rcases mre_spec n g (by omega) with h | h
  · omega
  · rcases Nat.lt_or_ge (mre n g) 14 with c | c
    · omega
    · have := Nat.pow_le_pow_right (n := 2) (by omega) c
      rcases hg with rfl | rfl <;> omega

/-- Steps and what is left are turned round by what a symbol stands for. -/
theorem st_spec (n g : Nat) (hn : n < 100000) (hg : g = 2 ∨ g = 4) : stepM (stS n g) g = mre n g ∧ stepB (stS n g) g + stR n g = n ∧ stR n g < 2 ^ mre n g := by
  have hp : 0 < 2 ^ mre n g := Nat.pow_pos (by omega)
  have hmod : n % 2 ^ mre n g < 2 ^ mre n g := Nat.mod_lt _ hp
  unfold stR
  refine ⟨?_, ?_, hmod⟩
  all_goals
    unfold stS
    have hs := mre_spec n g hn
    generalize mre n g = m at *
    have hdm := Nat.div_add_mod n (2 ^ m)
    generalize hP : 2 ^ m = P at *
    generalize hj : n / P = j at *
    have hbound : (m = 0 ∧ P = 1 ∧ n < 2 * g) ∨ (g ≤ j ∧ j < 2 * g) := by
      rcases hs with ⟨h1, h2⟩ | ⟨h1, h2⟩
      · left
        subst h2
        simp at hP
        rcases hg with rfl | rfl <;> omega
      · right
        have e1 : P * g ≤ n := by
          have := Nat.div_mul_le_self n g
          have h3 : P * g ≤ n / g * g := Nat.mul_le_mul_right g h1
          omega
        have e2 : n < 2 * P * g := by
          have h4 : n < (n / g + 1) * g := by rcases hg with rfl | rfl <;> omega
          have h5 : (n / g + 1) * g ≤ (2 * P) * g := Nat.mul_le_mul_right g (by omega)
          omega
        rw [← hj]
        refine ⟨(Nat.le_div_iff_mul_le hp).2 (by rw [Nat.mul_comm]; exact e1), (Nat.div_lt_iff_lt_mul hp).2 ?_⟩
        rw [Nat.mul_assoc, Nat.mul_comm P g, ← Nat.mul_assoc] at e2
        exact e2
  · unfold stepM
    rcases hbound with ⟨rfl, rfl, h⟩ | ⟨h1, h2⟩
    · have : j = n := by rw [← hj]; omega
      rw [if_pos (by omega)]
    · by_cases c : m * g + j < 2 * g
      · rw [if_pos c]
        rcases hg with rfl | rfl <;> omega
      · rw [if_neg c]
        rcases hg with rfl | rfl <;> omega
  · unfold stepB
    rcases hbound with ⟨rfl, rfl, h⟩ | ⟨h1, h2⟩
    · have : j = n := by rw [← hj]; omega
      rw [if_pos (by omega)]; omega
    · by_cases c : m * g + j < 2 * g
      · rw [if_pos c]
        have : m = 0 := by rcases hg with rfl | rfl <;> omega
        subst this
        simp at hP
        subst hP
        omega
      · rw [if_neg c]
        have e3 : g + (m * g + j) % g = j := by rcases hg with rfl | rfl <;> omega
        have e4 : (m * g + j) / g - 1 = m := by rcases hg with rfl | rfl <;> omega
        rw [e3, e4, hP, Nat.mul_comm]
        omega

theorem and_mask (n m : Nat) (hm : m ≤ 30) (hn : n < 4294967296) : bits .and .i64 (n : Int) (2 ^ m - 1) = ((n % 2 ^ m : Nat) : Int) := by
  have hp : 2 ^ m ≤ 2 ^ 30 := Nat.pow_le_pow_right (by omega) hm
  have h0 : 0 < 2 ^ m := Nat.pow_pos (by omega)
  have e : ((2 : Int) ^ m - 1) = ((2 ^ m - 1 : Nat) : Int) := by
    have : ((2 ^ m : Nat) : Int) = (2 : Int) ^ m := by simp
    omega
  have h1 : (BitVec.ofInt 64 (n : Int)).toNat = n := by
    rw [BitVec.ofInt_natCast, BitVec.toNat_ofNat]; exact Nat.mod_eq_of_lt (by omega)
  have h2 : (BitVec.ofInt 64 ((2 ^ m - 1 : Nat) : Int)).toNat = 2 ^ m - 1 := by
    rw [BitVec.ofInt_natCast, BitVec.toNat_ofNat]; exact Nat.mod_eq_of_lt (by omega)
  rw [e]
  show IntKind.i64.wrap ((BitVec.ofInt 64 (n : Int) &&& BitVec.ofInt 64 ((2 ^ m - 1 : Nat) : Int)).toNat : Int) = _
  rw [BitVec.toNat_and, h1, h2, Nat.and_two_pow_sub_one_eq_mod, IntKind.wrap_i64]
  have := Nat.mod_lt n h0
  omega

set_option maxRecDepth 100000 in
set_option maxHeartbeats 1000000 in
theorem stepOf4 (n : Nat) (w : World) (hn : n < 32768) :
    Calls Tryd.prog 76 #[.int .i64 (n : Int), .int .i64 4] w fun e w' => e = .returned (.tuple #[.int .i64 (stS n 4 : Nat), .int .i64 (stR n 4 : Nat), .int .i64 (mre n 4 : Nat)]) ∧ Fr Non w w' := by
  have hm := mre_le n 4 hn (Or.inr rfl)
  have hmd : max (0 : Int) (((Lib.bitLen (n / 4) : Nat) : Int) - 1) = ((mre n 4 : Nat) : Int) := by unfold mre; omega
  have hbl : Lib.bitLen (n / 4) ≤ 14 := by unfold mre at hm; omega
  unfold stS stR
  generalize mre n 4 = m at *
  have hp : 2 ^ m ≤ 2 ^ 13 := Nat.pow_le_pow_right (by omega) hm
  have hpi : ((2 ^ m : Nat) : Int) = (2 : Int) ^ m := by simp
  have hdl : n / 2 ^ m ≤ n := Nat.div_le_self _ _
  have hdi : ((n / 2 ^ m : Nat) : Int) = (n : Int) / 2 ^ m := by simp
  have hw1 : IntKind.i64.wrap ((m : Int) * 4) = (m : Int) * 4 := by rw [IntKind.wrap_i64]; omega
  have hw2 : IntKind.i64.wrap ((m : Int) * 4 + (n : Int) / 2 ^ m) = (m : Int) * 4 + (n : Int) / 2 ^ m := by rw [IntKind.wrap_i64, ← hdi]; clear hmd; generalize n / 2 ^ m = D at hdl; omega
  have hw3 : IntKind.i64.wrap ((2 : Int) ^ m) = (2 : Int) ^ m := by rw [IntKind.wrap_i64, ← hpi]; clear hmd hw2 hdl hdi; generalize 2 ^ m = P at hp; omega
  have hw4 : IntKind.i64.wrap ((2 : Int) ^ m - 1) = (2 : Int) ^ m - 1 := by rw [IntKind.wrap_i64, ← hpi]; clear hmd hw2 hw3 hdl hdi; generalize 2 ^ m = P at hp; omega
  have hand := and_mask n m (by omega) (by omega)
  have HAND : Hid _ := hand; clear hand
  have HPI : Hid _ := hpi; clear hpi
  have HDI : Hid _ := hdi; clear hdi
  go_enter Tryd.func76, Tryd.ntmps76
  go_wp2_with fail
  refine (bits_len ((n : Int) / 4) w (by omega) (by omega)).mono ?_
  rintro e w1 ⟨rfl, rfl⟩
  have hL : (((n : Int) / 4).toNat) = n / 4 := by omega
  rw [hL]
  generalize Lib.bitLen (n / 4) = L at hmd hbl ⊢
  clear hL
  go_wp2_with fail
  go_region
  go_wp2_with fail
  (try simp only [Exit.inBlock, Exit.then])
  refine bodyPost_ret (results_tmp3 rfl _ _ _) rfl ?_
  refine ⟨?_, (Fr.refl _ _).drew⟩
  rw [← HAND.out, show ((m * 4 + n / 2 ^ m : Nat) : Int) = (m : Int) * 4 + (n : Int) / 2 ^ m by rw [← HDI.out]; simp]
  rfl

set_option maxRecDepth 100000 in
set_option maxHeartbeats 1000000 in
theorem stepOf2 (n : Nat) (w : World) (hn : n < 32768) :
    Calls Tryd.prog 76 #[.int .i64 (n : Int), .int .i64 2] w fun e w' => e = .returned (.tuple #[.int .i64 (stS n 2 : Nat), .int .i64 (stR n 2 : Nat), .int .i64 (mre n 2 : Nat)]) ∧ Fr Non w w' := by
  have hm := mre_le n 2 hn (Or.inl rfl)
  have hmd : max (0 : Int) (((Lib.bitLen (n / 2) : Nat) : Int) - 1) = ((mre n 2 : Nat) : Int) := by unfold mre; omega
  have hbl : Lib.bitLen (n / 2) ≤ 14 := by unfold mre at hm; omega
  unfold stS stR
  generalize mre n 2 = m at *
  have hp : 2 ^ m ≤ 2 ^ 13 := Nat.pow_le_pow_right (by omega) hm
  have hpi : ((2 ^ m : Nat) : Int) = (2 : Int) ^ m := by simp
  have hdl : n / 2 ^ m ≤ n := Nat.div_le_self _ _
  have hdi : ((n / 2 ^ m : Nat) : Int) = (n : Int) / 2 ^ m := by simp
  have hw1 : IntKind.i64.wrap ((m : Int) * 2) = (m : Int) * 2 := by rw [IntKind.wrap_i64]; omega
  have hw2 : IntKind.i64.wrap ((m : Int) * 2 + (n : Int) / 2 ^ m) = (m : Int) * 2 + (n : Int) / 2 ^ m := by rw [IntKind.wrap_i64, ← hdi]; clear hmd; generalize n / 2 ^ m = D at hdl; omega
  have hw3 : IntKind.i64.wrap ((2 : Int) ^ m) = (2 : Int) ^ m := by rw [IntKind.wrap_i64, ← hpi]; clear hmd hw2 hdl hdi; generalize 2 ^ m = P at hp; omega
  have hw4 : IntKind.i64.wrap ((2 : Int) ^ m - 1) = (2 : Int) ^ m - 1 := by rw [IntKind.wrap_i64, ← hpi]; clear hmd hw2 hw3 hdl hdi; generalize 2 ^ m = P at hp; omega
  have hand := and_mask n m (by omega) (by omega)
  have HAND : Hid _ := hand; clear hand
  have HPI : Hid _ := hpi; clear hpi
  have HDI : Hid _ := hdi; clear hdi
  go_enter Tryd.func76, Tryd.ntmps76
  go_wp2_with fail
  refine (bits_len ((n : Int) / 2) w (by omega) (by omega)).mono ?_
  rintro e w1 ⟨rfl, rfl⟩
  have hL : (((n : Int) / 2).toNat) = n / 2 := by omega
  rw [hL]
  generalize Lib.bitLen (n / 2) = L at hmd hbl ⊢
  clear hL
  go_wp2_with fail
  go_region
  go_wp2_with fail
  (try simp only [Exit.inBlock, Exit.then])
  refine bodyPost_ret (results_tmp3 rfl _ _ _) rfl ?_
  refine ⟨?_, (Fr.refl _ _).drew⟩
  rw [← HAND.out, show ((m * 2 + n / 2 ^ m : Nat) : Int) = (m : Int) * 2 + (n : Int) / 2 ^ m by rw [← HDI.out]; simp]
  rfl

end Go.Proofs.YtdpobjgfnhjagaaDoor

namespace Go.Proofs.YtdpobjgfnhjagaaDoor
open Go.RowKit

def lS (len : Nat) : Nat := if len = 258 then 285 else 257 + stS (len - 3) 4
def lR (len : Nat) : Nat := if len = 258 then 0 else stR (len - 3) 4
def dS (d : Nat) : Nat := stS (d - 1) 2
def dR (d : Nat) : Nat := stR (d - 1) 2

theorem stS4_lt : ∀ n, n < 255 → stS n 4 < 28 := by
  have key : ∀ n : Fin 255, stS n.val 4 < 28 := by decide +kernel
  exact fun n hn => key ⟨n, hn⟩

theorem len_spec (len : Nat) (h1 : 3 ≤ len) (h2 : len ≤ 258) : 257 ≤ lS len ∧ lS len ≤ 285 ∧ lR len < 2 ^ lenM (lS len) ∧ lenB (lS len) + lR len = len ∧ (len ≠ 258 → lenM (lS len) = mre (len - 3) 4) := by
  unfold lS lR
  by_cases c : len = 258
  · rw [if_pos c, if_pos c, c]
    refine ⟨by omega, by omega, by decide, by decide, fun h => absurd rfl h⟩
  · rw [if_neg c, if_neg c]
    have hs := stS4_lt (len - 3) (by omega)
    obtain ⟨q1, q2, q3⟩ := st_spec (len - 3) 4 (by omega) (Or.inr rfl)
    have e1 : lenM (257 + stS (len - 3) 4) = mre (len - 3) 4 := by
      unfold lenM
      rw [if_neg (by omega), Nat.add_sub_cancel_left, q1]
    have e2 : lenB (257 + stS (len - 3) 4) = 3 + stepB (stS (len - 3) 4) 4 := by
      unfold lenB
      rw [if_neg (by omega), Nat.add_sub_cancel_left]
    rw [e1, e2]
    exact ⟨by omega, by omega, q3, by omega, fun _ => rfl⟩

theorem dist_spec (d : Nat) (h1 : 1 ≤ d) (h2 : d ≤ 32768) : dS d < 30 ∧ dR d < 2 ^ distM (dS d) ∧ distB (dS d) + dR d = d ∧ distM (dS d) = mre (d - 1) 2 := by
  obtain ⟨q1, q2, q3⟩ := st_spec (d - 1) 2 (by omega) (Or.inl rfl)
  have hm := mre_le (d - 1) 2 (by omega) (Or.inl rfl)
  unfold dS dR distM distB
  rw [q1]
  refine ⟨?_, q3, by omega, rfl⟩
  have hb : (d - 1) / 2 ^ mre (d - 1) 2 < 4 := by
    have hp : 0 < 2 ^ mre (d - 1) 2 := Nat.pow_pos (by omega)
    rcases mre_spec (d - 1) 2 (by omega) with ⟨h3, h4⟩ | ⟨h3, h4⟩
    · rw [h4]; simp; omega
    · rw [Nat.div_lt_iff_lt_mul hp]
      generalize 2 ^ mre (d - 1) 2 = P at *
      omega
  unfold stS
  generalize (d - 1) / 2 ^ mre (d - 1) 2 = j at hb
  omega

set_option maxRecDepth 100000 in
set_option maxHeartbeats 400000 in
theorem ofLength_any (len : Nat) (w : World) (h1 : 3 ≤ len) (h2 : len ≤ 258) :
    Calls Tryd.prog 53 #[.int .i64 (len : Int)] w fun e w' => e = .returned (.tuple #[.int .i64 (lS len : Nat), .int .i64 (lR len : Nat), .int .i64 (lenM (lS len) : Nat)]) ∧ Fr Non w w' := by
  by_cases c : len = 258
  · subst c
    go_enter Tryd.func53, Tryd.ntmps53
    go_wp2_with fail
    (try simp only [Exit.inBlock, Exit.then])
    refine bodyPost_ret (results_tmp3 rfl _ _ _) rfl ?_
    exact ⟨rfl, Fr.refl _ _⟩
  · have hcb : ((len : Int) == 258) = false := by simp; omega
    have hs := stS4_lt (len - 3) (by omega)
    have e5 := (len_spec len h1 h2).2.2.2.2 c
    have e1 : lS len = 257 + stS (len - 3) 4 := if_neg c
    have e2 : lR len = stR (len - 3) 4 := if_neg c
    rw [e5, e1, e2]
    have hc := stepOf4 (len - 3) w (by omega)
    rw [show ((len - 3 : Nat) : Int) = (len : Int) - 3 by omega] at hc
    generalize stS (len - 3) 4 = a at *
    generalize stR (len - 3) 4 = b at *
    generalize mre (len - 3) 4 = m at *
    clear e1 e2 e5
    have HC : Hid _ := hc; clear hc
    go_enter Tryd.func53, Tryd.ntmps53
    go_wp2_with fail
    refine Calls.mono HC.out ?_
    rintro e w1 ⟨rfl, f1⟩
    go_wp2_with fail
    (try simp only [Exit.inBlock, Exit.then])
    refine bodyPost_ret (results_tmp3 rfl _ _ _) rfl ?_
    refine ⟨?_, f1⟩
    rw [show ((257 + a : Nat) : Int) = 257 + (a : Int) by simp]
    rfl

set_option maxRecDepth 100000 in
set_option maxHeartbeats 400000 in
theorem ofDistance_any (d : Nat) (w : World) (h1 : 1 ≤ d) (h2 : d ≤ 32768) :
    Calls Tryd.prog 54 #[.int .i64 (d : Int)] w fun e w' => e = .returned (.tuple #[.int .i64 (dS d : Nat), .int .i64 (dR d : Nat), .int .i64 (distM (dS d) : Nat)]) ∧ Fr Non w w' := by
  have e5 := (dist_spec d h1 h2).2.2.2
  rw [e5]
  unfold dS dR
  have hc := stepOf2 (d - 1) w (by omega)
  rw [show ((d - 1 : Nat) : Int) = (d : Int) - 1 by omega] at hc
  generalize stS (d - 1) 2 = a at *
  generalize stR (d - 1) 2 = b at *
  generalize mre (d - 1) 2 = m at *
  clear e5
  have HC : Hid _ := hc; clear hc
  go_enter Tryd.func54, Tryd.ntmps54
  go_wp2_with fail
  refine Calls.mono HC.out ?_
  rintro e w1 ⟨rfl, f1⟩
  go_wp2_with fail
  (try simp only [Exit.inBlock, Exit.then])
  refine bodyPost_ret (results_tmp3 rfl _ _ _) rfl ?_
  exact ⟨rfl, f1⟩

set_option maxRecDepth 100000 in
set_option maxHeartbeats 400000 in
theorem codeOf_any (g o n cap : Nat) (lens : List Nat) (w : World) (hn : lens.length = n) (hn2 : n ≤ 320) (hx : ∀ x ∈ lens, x < 16) (hL : IntsAt w g o (ni lens)) :
    Calls Tryd.prog 32 #[.slice (some ⟨g, o, none⟩) n cap] w fun e w' => ∃ gw, e = .returned (.agg #[.slice (some ⟨g, o, none⟩) n cap, .slice (some ⟨gw, 0, none⟩) n n]) ∧ w'.heap[gw]? = some (.cells (ints (ni (tab (wordOf lens) n))) 3 (0, 0)) ∧ w.heap.size ≤ gw ∧ Below w.heap.size w w' := by
  have hg := hL.lt
  obtain ⟨W, hW⟩ : ∃ W, W = w.alloc (.cells #[.slice none 0 0, .slice none 0 0] 70) := ⟨_, rfl⟩
  have hbA : Below w.heap.size w W := by rw [hW]; exact (Below.refl _ w).alloc (Nat.le_refl _) _
  have hsz : W.heap.size = w.heap.size + 1 := by rw [hW]; simp
  have hbx : W.heap[w.heap.size]? = some (.cells #[.slice none 0 0, .slice none 0 0] 70 (0, 0)) := by rw [hW]; exact heap_alloc_new _ _
  have HC : Hid _ := words_any g o n cap lens W hn hn2 hx (hL.below hbA hg)
  go_enter Tryd.func32, Tryd.ntmps32
  go_wp2_with fail
  rw [← hW]
  refine Calls.mono HC.out ?_
  rintro e w1 ⟨rfl, h1, h2⟩
  rw [hsz] at h1 h2 ⊢
  have hb1 : w1.heap[w.heap.size]? = some (.cells #[.slice none 0 0, .slice none 0 0] 70 (0, 0)) := (h2.block _ (by omega)).trans hbx
  have c0 : w1.cell? ⟨w.heap.size, 0, none⟩ = some (.slice none 0 0) := cell_of_heap hb1 0
  have c1 : w1.cell? ⟨w.heap.size, 1, none⟩ = some (.slice none 0 0) := cell_of_heap hb1 1
  have fz := free_of_heap hb1
  have HB : Hid (w1.heap[w.heap.size]? = some (.cells #[.slice none 0 0, .slice none 0 0] 70 (0, 0))) := hb1
  have H1 : Hid (w1.heap[w.heap.size + 1 + 2]? = some (.cells (ints (ni (tab (wordOf lens) n))) 3 (0, 0))) := h1
  clear hb1 h1 hbx HC
  go_wp2_with fail
  (try simp only [Exit.inBlock, Exit.then])
  have hset := heap_set (heap_set HB.out 0 (.slice (some ⟨g, o, none⟩) n cap)) 1 (.slice (some ⟨w.heap.size + 1 + 2, 0, none⟩) n n)
  refine bodyPost_ret (results_cell_row rfl _ _ w.heap.size 70 #[.slice (some ⟨g, o, none⟩) n cap, .slice (some ⟨w.heap.size + 1 + 2, 0, none⟩) n n] (0, 0) _ rfl hset Tryd.underlying70 rfl rfl) rfl ?_
  refine ⟨w.heap.size + 1 + 2, rfl, ?_, by omega, ?_⟩
  · exact (heap_set_other (by omega) _ _).trans ((heap_set_other (by omega) _ _).trans H1.out)
  · exact ((hbA.trans (h2.mono (by omega))).setCell (p := ⟨w.heap.size, 0, none⟩) (Nat.le_refl _) _).setCell (p := ⟨w.heap.size, 1, none⟩) (Nat.le_refl _) _

set_option maxHeartbeats 400000 in
theorem shorter_any (a b : Value) (ao bo : Option Addr) (n m c1 c2 : Nat) (ha : a = .slice ao n c1) (hb : b = .slice bo m c2) (w : World) :
    Calls Tryd.prog 19 #[a, b] w fun e w' => e = .returned (if m < n then b else a) ∧ w' = w := by
  subst ha hb
  by_cases c : m < n
  · rw [if_pos c]
    go_enter Tryd.func19, Tryd.ntmps19
    go_wp2_with fail
    go_ret
    exact ⟨rfl, rfl⟩
  · rw [if_neg c]
    go_enter Tryd.func19, Tryd.ntmps19
    go_wp2_with fail
    go_ret
    exact ⟨rfl, rfl⟩

set_option maxHeartbeats 400000 in
theorem begin_any (k : Nat) (w : World) (_hk : k < 4) :
    Calls Tryd.prog 25 #[.int .i64 (k : Int)] w fun e w' => e = .returned (.pointer (some ⟨w.heap.size, 0, none⟩)) ∧ OutAt w.heap.size w' (headBits k) ∧ Below w.heap.size w w' := by
  obtain ⟨W, hW⟩ : ∃ W, W = w.alloc (.cells #[.slice none 0 0, .int .i64 0] 62) := ⟨_, rfl⟩
  have ho : OutAt w.heap.size W [] := by
    refine ⟨fun x hx => by simp at hx, .slice none 0 0, ?_, rfl, Or.inl ⟨rfl, rfl⟩⟩
    rw [hW]
    exact heap_alloc_new _ _
  have hbA : Below w.heap.size w W := by rw [hW]; exact (Below.refl _ w).alloc (Nat.le_refl _) _
  go_enter Tryd.func25, Tryd.ntmps25
  go_wp2_with fail
  rw [← hW]
  refine (bit_put w.heap.size 1 [] W ho (by omega) (by simp)).mono ?_
  rintro e w1 ⟨rfl, o1, k1⟩
  go_wp2_with fail
  refine (number_put w.heap.size 2 k _ w1 o1 (by omega) (by simp)).mono ?_
  rintro e w2 ⟨rfl, o2, k2⟩
  go_wp2_with fail
  go_ret
  exact ⟨rfl, o2, hbA.trans (k1.below.trans k2.below)⟩

end Go.Proofs.YtdpobjgfnhjagaaDoor

namespace Go.Proofs.YtdpobjgfnhjagaaDoor
open Go.RowKit

/-- A token as the program has it: a byte; a length and a distance, or 0. -/
structure GT where
  c : UInt8
  len : Nat
  dist : Nat
def toTok (t : GT) : Tok := if t.len = 0 then ⟨t.c.toNat, 0, 0, 0⟩ else ⟨lS t.len, lR t.len, dS t.dist, dR t.dist⟩
def gtOk (t : GT) : Prop := t.len = 0 ∨ (3 ≤ t.len ∧ t.len ≤ 258 ∧ 1 ≤ t.dist ∧ t.dist ≤ 32768)
abbrev gt (ts : List GT) (i : Nat) : GT := ts.getD i ⟨0, 0, 0⟩

/-- Tokens lie in block g. -/
structure TkAt (w : World) (g : Nat) (ts : List GT) : Prop where
  lt : g < w.heap.size
  c0 : ∀ i, i < ts.length → w.cell? ⟨g, i * 3, none⟩ = some (.int .u8 (((gt ts i).c.toNat : Nat) : Int))
  c1 : ∀ i, i < ts.length → w.cell? ⟨g, i * 3 + 1, none⟩ = some (.int .i64 (((gt ts i).len : Nat) : Int))
  c2 : ∀ i, i < ts.length → w.cell? ⟨g, i * 3 + 2, none⟩ = some (.int .i64 (((gt ts i).dist : Nat) : Int))
theorem TkAt.below {w w' : World} {B g : Nat} {ts : List GT} (h : TkAt w g ts) (hb : Below B w w') (hg : g < B) : TkAt w' g ts :=
  ⟨Nat.lt_of_lt_of_le h.lt hb.size, fun i hi => (hb.cell (p := ⟨g, i * 3, none⟩) hg).trans (h.c0 i hi), fun i hi => (hb.cell (p := ⟨g, i * 3 + 1, none⟩) hg).trans (h.c1 i hi), fun i hi => (hb.cell (p := ⟨g, i * 3 + 2, none⟩) hg).trans (h.c2 i hi)⟩

theorem tokBits_le (L D : List Nat) (hL : ∀ x ∈ L, x < 16) (hD : ∀ x ∈ D, x < 16) (t : Tok) (h : t.s < 256 ∨ (257 ≤ t.s ∧ t.s ≤ 285 ∧ t.d < 30)) : (tokBits L D t).length ≤ 48 := by
  unfold tokBits codeBits
  have h1 : L.getD t.s 0 < 16 := gd_lt hL (by omega) t.s
  have h2 : D.getD t.d 0 < 16 := gd_lt hD (by omega) t.d
  rw [List.length_append, msb_length]
  split
  · rw [List.length_nil]; omega
  · rename_i c
    obtain ⟨q1, q2, q3⟩ := h.resolve_left c
    have h3 := (len_bounds t.s q1 q2).2.1
    have h4 := (dist_bounds t.d q3).2.1
    simp only [List.length_append, lsb_length, msb_length]
    omega
theorem toksBits_le (L D : List Nat) (hL : ∀ x ∈ L, x < 16) (hD : ∀ x ∈ D, x < 16) (ts : List Tok) (h : ∀ t ∈ ts, t.s < 256 ∨ (257 ≤ t.s ∧ t.s ≤ 285 ∧ t.d < 30)) : (toksBits L D ts).length ≤ 48 * ts.length := by
  induction ts with
  | nil => simp [toksBits]
  | cons t r ih =>
    have h1 := tokBits_le L D hL hD t (h t (by simp))
    have h2 := ih (fun t ht => h t (by simp [ht]))
    simp only [toksBits, List.length_append, List.length_cons]
    omega
theorem toksBits_snoc (L D : List Nat) (ts : List Tok) (t : Tok) : toksBits L D (ts ++ [t]) = toksBits L D ts ++ tokBits L D t := by
  induction ts with
  | nil => simp [toksBits]
  | cons a r ih => simp only [List.cons_append, toksBits, ih, List.append_assoc]

theorem OutAt.alloc {B : Nat} {w : World} {bs : List Nat} (h : OutAt B w bs) (o : Obj) : OutAt B (w.alloc o) bs := by
  obtain ⟨q1, ov, q2, q3⟩ := h
  exact ⟨q1, ov, (heap_alloc_old (lt_of_heap q2) _).trans q2, owns_keep q3 (fun g _ hg => heap_alloc_old hg _)⟩
theorem OutAt.lt {B : Nat} {w : World} {bs : List Nat} (h : OutAt B w bs) : B < w.heap.size := by
  obtain ⟨q1, ov, q2, q3⟩ := h
  exact lt_of_heap q2
theorem Kp.new {B : Nat} {w : World} (hB : B < w.heap.size) (o : Obj) : Kp B w (w.alloc o) := Kp.one hB ((Fr.refl _ w).alloc o)
theorem Kp.non {B : Nat} {w w' : World} (hB : B < w.heap.size) (f : Fr Non w w') : Kp B w w' := Kp.one hB (f.mono fun _ _ e => e.elim)
theorem OutAt.non {B : Nat} {w w' : World} {bs : List Nat} (h : OutAt B w bs) (f : Fr Non w w') : OutAt B w' bs := by
  obtain ⟨q1, ov, q2, q3⟩ := h
  exact ⟨q1, ov, (f.block B (lt_of_heap q2) (fun e => e)).trans q2, owns_keep q3 (fun g _ hg => f.block g hg (fun e => e))⟩

/-- The value of a code. -/
abbrev cdV (gl ol n cl gw cw : Nat) : Array Value := #[.slice (some ⟨gl, ol, none⟩) n cl, .slice (some ⟨gw, 0, none⟩) n cw]

structure CdEnv (B : Nat) (w : World) (gl ol gw : Nat) (lens : List Nat) : Prop where
  keep : ∀ w', Kp B w w' → CdAt w' gl ol gw lens
  gl : gl ≠ B
  gw : gw ≠ B
  x16 : ∀ x ∈ lens, x < 16
  len : lens.length ≤ 320
theorem CdEnv.kp {B : Nat} {w w' : World} {gl ol gw : Nat} {lens : List Nat} (h : CdEnv B w gl ol gw lens) (k : Kp B w w') : CdEnv B w' gl ol gw lens :=
  ⟨fun w'' k2 => h.keep w'' (k.trans k2), h.gl, h.gw, h.x16, h.len⟩
theorem symbol_env (B gl ol gw cl cw s : Nat) (lens : List Nat) (bs : List Nat) (w : World) (h : OutAt B w bs) (E : CdEnv B w gl ol gw lens) (hs : s < lens.length) (h0 : gd lens s ≠ 0) (hl : bs.length < 6000000) :
    Calls Tryd.prog 52 #[.pointer (some ⟨B, 0, none⟩), .agg (cdV gl ol lens.length cl gw cw), .int .i64 (s : Int)] w fun e w' => e = .returned (.tuple #[]) ∧ OutAt B w' (bs ++ codeBits lens s) ∧ Kp B w w' :=
  symbol_put B gl ol gw cl cw s lens bs w h (E.keep w (Kp.refl _ _)) E.gl E.gw E.keep E.x16 E.len hs h0 hl

set_option maxRecDepth 100000 in
set_option maxHeartbeats 2000000 in
theorem tokens_put (B gl ol gw cl cw dl od dw ecl ecw gt0 n cap : Nat) (L D bs : List Nat) (ts : List GT) (w : World) (h : OutAt B w bs) (EL : CdEnv B w gl ol gw L) (ED : CdEnv B w dl od dw D) (hT : TkAt w gt0 ts) (hgB : gt0 < B) (hn : ts.length = n) (hn2 : n ≤ 30000) (hok : ∀ t ∈ ts, gtOk t ∧ tokOk L D (toTok t)) (h256 : 256 < L.length) (he : gd L 256 ≠ 0) (hl : bs.length < 4000000) :
    Calls Tryd.prog 31 #[.pointer (some ⟨B, 0, none⟩), .slice (some ⟨gt0, 0, none⟩) n cap, .agg #[.slice (some ⟨gl, ol, none⟩) L.length cl, .slice (some ⟨gw, 0, none⟩) L.length cw, .slice (some ⟨dl, od, none⟩) D.length ecl, .slice (some ⟨dw, 0, none⟩) D.length ecw]] w fun e w' => e = .returned (.tuple #[]) ∧ OutAt B w' (bs ++ (toksBits L D (ts.map toTok) ++ codeBits L 256)) ∧ Kp B w w' := by
  have hBl := h.lt
  have HN : Hid (ts.length = n) := hn; clear hn
  go_enter Tryd.func31, Tryd.ntmps31
  go_wp2_with fail
  go_loopw [13] (fun i wr => ∃ k : Nat, k ≤ n ∧ i = .int .i64 k ∧ OutAt B wr (bs ++ toksBits L D ((ts.take k).map toTok)) ∧ wr.heap[w.heap.size]? = some (.cells #[.slice (some ⟨gl, ol, none⟩) L.length cl, .slice (some ⟨gw, 0, none⟩) L.length cw, .slice (some ⟨dl, od, none⟩) D.length ecl, .slice (some ⟨dw, 0, none⟩) D.length ecw] 74 (0, 0)) ∧ Kp B w wr) (fun i _ => n - (intOf i).toNat)
  case atStart => exact ⟨0, by omega, rfl, by simpa [toksBits] using h.alloc _, heap_alloc_new _ _, Kp.new hBl _⟩
  case round =>
    obtain ⟨k, hk, rfl, ho, hbx, hkp⟩ := hrel
    have hblen : (toksBits L D ((ts.take k).map toTok)).length ≤ 48 * k := by
      have := toksBits_le L D EL.x16 ED.x16 ((ts.take k).map toTok) (fun t ht => by
        obtain ⟨q, hq, rfl⟩ := List.mem_map.1 ht
        obtain ⟨_, _, q3⟩ := (hok q (List.mem_of_mem_take hq)).2
        rcases q3 with q3 | ⟨c1, c2, _, c4, _⟩
        · exact Or.inl q3
        · exact Or.inr ⟨c1, c2, c4⟩)
      rw [List.length_map, List.length_take] at this
      omega
    have hBr := ho.lt
    have e0 : wr.cell? ⟨w.heap.size, 0, none⟩ = some (.slice (some ⟨gl, ol, none⟩) L.length cl) := cell_of_heap hbx 0
    have e1 : wr.cell? ⟨w.heap.size, 1, none⟩ = some (.slice (some ⟨gw, 0, none⟩) L.length cw) := cell_of_heap hbx 1
    have e2 : wr.cell? ⟨w.heap.size, 2, none⟩ = some (.slice (some ⟨dl, od, none⟩) D.length ecl) := cell_of_heap hbx 2
    have e3 : wr.cell? ⟨w.heap.size, 3, none⟩ = some (.slice (some ⟨dw, 0, none⟩) D.length ecw) := cell_of_heap hbx 3
    have hbl := lt_of_heap hbx
    have hELr := EL.kp hkp
    by_cases hlt : k < n
    · have hEDr := ED.kp hkp
      have hkt : k < ts.length := by rw [HN.out]; exact hlt
      have hTr := hT.below hkp.below hgB
      have a0 := hTr.c0 k hkt
      have a1 := hTr.c1 k hkt
      have a2 := hTr.c2 k hkt
      have hgl := hTr.lt
      have hmem : gt ts k ∈ ts := by
        have : gt ts k = ts[k] := by simp [gt, List.getD, hkt]
        rw [this]; exact List.getElem_mem hkt
      obtain ⟨hg1, hg2⟩ := hok _ hmem
      have htk : (ts.take (k + 1)).map toTok = (ts.take k).map toTok ++ [toTok (gt ts k)] := by
        have : gt ts k = ts[k] := by simp [gt, List.getD, hkt]
        rw [this, List.take_succ_eq_append_getElem hkt, List.map_append]; rfl
      have hbits : toksBits L D ((ts.take (k + 1)).map toTok) = toksBits L D ((ts.take k).map toTok) ++ tokBits L D (toTok (gt ts k)) := by rw [htk, toksBits_snoc]
      clear htk hmem
      obtain ⟨⟨c, len, dist⟩, ht⟩ : ∃ t, gt ts k = t := ⟨_, rfl⟩
      rw [ht] at a0 a1 a2 hg1 hg2 hbits
      simp only at a0 a1 a2
      clear ht
      obtain ⟨bk, hbk⟩ : ∃ bk, bs ++ toksBits L D ((ts.take k).map toTok) = bk := ⟨_, rfl⟩
      have hbkl : bk.length < 6000000 - 100 := by rw [← hbk, List.length_append]; omega
      rw [hbk] at ho
      have HBT : Hid (bs ++ toksBits L D ((ts.take (k + 1)).map toTok) = bk ++ tokBits L D (toTok ⟨c, len, dist⟩)) := by
        show _ = _
        rw [hbits, ← List.append_assoc, hbk]
      clear hbits hbk hblen
      have HB : Hid (wr.heap[w.heap.size]? = some (.cells #[.slice (some ⟨gl, ol, none⟩) L.length cl, .slice (some ⟨gw, 0, none⟩) L.length cw, .slice (some ⟨dl, od, none⟩) D.length ecl, .slice (some ⟨dw, 0, none⟩) D.length ecw] 74 (0, 0))) := hbx
      clear hbx
      obtain ⟨W, hW⟩ : ∃ W, W = wr.alloc (.cells #[.int .u8 ((c.toNat : Nat) : Int), .int .i64 ((len : Nat) : Int), .int .i64 ((dist : Nat) : Int)] 64) := ⟨_, rfl⟩
      have hoW : OutAt B W bk := by rw [hW]; exact ho.alloc _
      have hkW : Kp B wr W := by rw [hW]; exact Kp.new hBr _
      have hbW : Hid (W.heap[w.heap.size]? = some (.cells #[.slice (some ⟨gl, ol, none⟩) L.length cl, .slice (some ⟨gw, 0, none⟩) L.length cw, .slice (some ⟨dl, od, none⟩) D.length ecl, .slice (some ⟨dw, 0, none⟩) D.length ecw] 74 (0, 0))) := by
        rw [hW]; exact (heap_alloc_old hbl _).trans HB.out
      have htW : Hid (W.heap[wr.heap.size]? = some (.cells #[.int .u8 ((c.toNat : Nat) : Int), .int .i64 ((len : Nat) : Int), .int .i64 ((dist : Nat) : Int)] 64 (0, 0))) := by
        rw [hW]; exact heap_alloc_new _ _
      have hBsz : B < w.heap.size := hBl
      have hBsz2 : B < wr.heap.size := hBr
      by_cases hl0 : len = 0
      · subst hl0
        have hb1 : tokBits L D (toTok ⟨c, 0, dist⟩) = codeBits L c.toNat := by
          unfold tokBits toTok
          have : c.toNat < 256 := c.toNat_lt
          simp [this]
        have hs1 : c.toNat < L.length ∧ 0 < L.getD c.toNat 0 := by
          have := hg2
          unfold toTok at this
          rw [if_pos rfl] at this
          exact ⟨this.1, this.2.1⟩
        have hbt := HBT.out
        rw [hb1] at hbt
        have HBT2 : Hid _ := hbt; clear hbt HBT hb1 hg1 hg2
        have HC : Hid _ := symbol_env B gl ol gw cl cw c.toNat L bk W hoW (hELr.kp hkW) hs1.1 (by have := hs1.2; show L.getD _ 0 ≠ 0; omega) (by omega)
        clear hs1
        have hc256 : ((c.toNat : Nat) : Int) < 256 := by have : c.toNat < 256 := c.toNat_lt; omega
        have hW0 : W = wr.alloc (.cells #[.int .u8 ((c.toNat : Nat) : Int), .int .i64 0, .int .i64 ((dist : Nat) : Int)] 64) := hW
        go_wp2_with fail
        rw [← hW0]
        refine Calls.mono HC.out ?_
        rintro e w1 ⟨rfl, o1, k1⟩
        go_wp2_with fail
        go_roundw
        case rel =>
          refine ⟨k + 1, by omega, by go_num, by rw [HBT2.out]; exact o1, ?_, (hkp.trans hkW).trans k1⟩
          exact k1.other w.heap.size _ 74 (0, 0) hBsz (by decide) hbW.out
        case measure => simp [intOf]; omega
      · obtain ⟨g3, g4, g5, g6⟩ := hg1.resolve_left hl0
        have hl0b : ((len : Int) == 0) = false := by simp; omega
        obtain ⟨q1, q2, q3, q4, q5⟩ := len_spec len g3 g4
        obtain ⟨r1, r2, r3, r4⟩ := dist_spec dist g5 g6
        clear q5 r4
        have htt : toTok ⟨c, len, dist⟩ = ⟨lS len, lR len, dS dist, dR dist⟩ := if_neg hl0
        have hb1 : tokBits L D (toTok ⟨c, len, dist⟩) = codeBits L (lS len) ++ (lsb (lenM (lS len)) (lR len) ++ (codeBits D (dS dist) ++ lsb (distM (dS dist)) (dR dist))) := by
          rw [htt]
          unfold tokBits
          rw [if_neg (by show ¬ lS len < 256; omega)]
        rw [htt] at hg2
        obtain ⟨t1, t2, t3⟩ := hg2
        obtain ⟨_, _, _, _, t4, t5, _⟩ := t3.resolve_left (by show ¬ lS len < 256; omega)
        simp only at t1 t2 t4 t5
        have hbt := HBT.out
        rw [hb1] at hbt
        have HBT2 : Hid _ := hbt; clear hbt HBT hb1 htt t3
        have lb := (len_bounds (lS len) q1 q2).2.1
        have db := (dist_bounds (dS dist) r1).2.1
        have hcl : (codeBits L (lS len)).length ≤ 15 := by
          unfold codeBits
          rw [msb_length]
          have : L.getD (lS len) 0 < 16 := gd_lt EL.x16 (by omega) _
          omega
        have hcd : (codeBits D (dS dist)).length ≤ 15 := by
          unfold codeBits
          rw [msb_length]
          have : D.getD (dS dist) 0 < 16 := gd_lt ED.x16 (by omega) _
          omega
        have HOL : Hid _ := ofLength_any len W g3 g4
        clear q4 r3
        go_wp2_with fail
        rw [← hW]
        refine Calls.mono HOL.out ?_
        rintro e w1 ⟨rfl, f1⟩
        have hBW := hoW.lt
        have o1 := hoW.non f1
        have k1 : Kp B W w1 := Kp.non hBW f1
        have b1 : w1.heap[w.heap.size]? = some (.cells #[.slice (some ⟨gl, ol, none⟩) L.length cl, .slice (some ⟨gw, 0, none⟩) L.length cw, .slice (some ⟨dl, od, none⟩) D.length ecl, .slice (some ⟨dw, 0, none⟩) D.length ecw] 74 (0, 0)) := k1.other _ _ 74 (0, 0) hBsz (by decide) hbW.out
        have x0 : w1.cell? ⟨w.heap.size, 0, none⟩ = some (.slice (some ⟨gl, ol, none⟩) L.length cl) := cell_of_heap b1 0
        have x1 : w1.cell? ⟨w.heap.size, 1, none⟩ = some (.slice (some ⟨gw, 0, none⟩) L.length cw) := cell_of_heap b1 1
        have HC1 : Hid _ := symbol_env B gl ol gw cl cw (lS len) L bk w1 o1 ((hELr.kp hkW).kp k1) t1 (by show L.getD _ 0 ≠ 0; omega) (by omega)
        have KB1 : Hid _ := b1; clear b1
        go_wp2_with fail
        refine Calls.mono HC1.out ?_
        rintro e w2 ⟨rfl, o2, k2⟩
        go_wp2_with fail
        refine (number_put B (lenM (lS len)) (lR len) _ w2 o2 (by omega) (by rw [List.length_append]; omega)).mono ?_
        rintro e w3 ⟨rfl, o3, k3⟩
        have k13 := (k1.trans k2).trans k3
        have t3c : w3.heap[wr.heap.size]? = some (.cells #[.int .u8 ((c.toNat : Nat) : Int), .int .i64 ((len : Nat) : Int), .int .i64 ((dist : Nat) : Int)] 64 (0, 0)) := k13.other _ _ 64 (0, 0) hBsz2 (by decide) htW.out
        have y2 : w3.cell? ⟨wr.heap.size, 2, none⟩ = some (.int .i64 ((dist : Nat) : Int)) := cell_of_heap t3c 2
        have HT3 : Hid _ := t3c; clear t3c
        have HOD : Hid _ := ofDistance_any dist w3 g5 g6
        go_wp2_with fail
        refine Calls.mono HOD.out ?_
        rintro e w4 ⟨rfl, f4⟩
        have hB3 := o3.lt
        have o4 := o3.non f4
        have k4 : Kp B w3 w4 := Kp.non hB3 f4
        have k14 := k13.trans k4
        have b4 : w4.heap[w.heap.size]? = some (.cells #[.slice (some ⟨gl, ol, none⟩) L.length cl, .slice (some ⟨gw, 0, none⟩) L.length cw, .slice (some ⟨dl, od, none⟩) D.length ecl, .slice (some ⟨dw, 0, none⟩) D.length ecw] 74 (0, 0)) := k14.other _ _ 74 (0, 0) hBsz (by decide) hbW.out
        have z2 : w4.cell? ⟨w.heap.size, 2, none⟩ = some (.slice (some ⟨dl, od, none⟩) D.length ecl) := cell_of_heap b4 2
        have z3 : w4.cell? ⟨w.heap.size, 3, none⟩ = some (.slice (some ⟨dw, 0, none⟩) D.length ecw) := cell_of_heap b4 3
        have KB4 : Hid _ := b4; clear b4
        have HC4 : Hid _ := symbol_env B dl od dw ecl ecw (dS dist) D _ w4 o4 ((hEDr.kp hkW).kp k14) t4 (by show D.getD _ 0 ≠ 0; omega) (by simp only [List.length_append, lsb_length]; omega)
        go_wp2_with fail
        refine Calls.mono HC4.out ?_
        rintro e w5 ⟨rfl, o5, k5⟩
        go_wp2_with fail
        refine (number_put B (distM (dS dist)) (dR dist) _ w5 o5 (by omega) (by simp only [List.length_append, lsb_length]; omega)).mono ?_
        rintro e w6 ⟨rfl, o6, k6⟩
        have k16 := (k14.trans k5).trans k6
        have b6 : w6.heap[w.heap.size]? = some (.cells #[.slice (some ⟨gl, ol, none⟩) L.length cl, .slice (some ⟨gw, 0, none⟩) L.length cw, .slice (some ⟨dl, od, none⟩) D.length ecl, .slice (some ⟨dw, 0, none⟩) D.length ecw] 74 (0, 0)) := k16.other _ _ 74 (0, 0) hBsz (by decide) hbW.out
        have KB6 : Hid _ := b6; clear b6
        go_wp2_with fail
        go_roundw
        case rel =>
          refine ⟨k + 1, by omega, by go_num, ?_, KB6.out, (hkp.trans hkW).trans k16⟩
          rw [HBT2.out]
          simpa only [List.append_assoc] using o6
        case measure => simp [intOf]; omega
    · have : k = n := by omega
      subst this
      have hall : ts.take k = ts := List.take_of_length_le (by rw [HN.out]; omega)
      rw [hall] at ho hblen
      have HC : Hid _ := symbol_env B gl ol gw cl cw 256 L _ wr ho hELr h256 he (by rw [List.length_append]; omega)
      have HB : Hid _ := hbx; clear hbx
      go_wp2_with fail
      refine Calls.mono HC.out ?_
      rintro e w1 ⟨rfl, o1, k1⟩
      go_wp2_with fail
      go_end0
      refine ⟨rfl, ?_, hkp.trans k1⟩
      rw [← List.append_assoc]
      exact o1

end Go.Proofs.YtdpobjgfnhjagaaDoor

namespace Go.Proofs.YtdpobjgfnhjagaaDoor
open Go.RowKit

/-- Tokens' cells. -/
def tkC (ts : List GT) : List Value := ts.flatMap fun t => [.int .u8 ((t.c.toNat : Nat) : Int), .int .i64 ((t.len : Nat) : Int), .int .i64 ((t.dist : Nat) : Int)]
theorem tkC_length (l : List GT) : (tkC l).length = l.length * 3 := by
  induction l with
  | nil => rfl
  | cons a r ih => simp only [tkC, List.flatMap_cons, List.length_append, List.length_cons, List.length_nil] at ih ⊢; omega
theorem tkC_append (a b : List GT) : tkC (a ++ b) = tkC a ++ tkC b := by simp [tkC]
theorem tkC_get (l : List GT) (i : Nat) (h : i < l.length) : (tkC l)[i * 3]? = some (.int .u8 (((gt l i).c.toNat : Nat) : Int)) ∧ (tkC l)[i * 3 + 1]? = some (.int .i64 (((gt l i).len : Nat) : Int)) ∧ (tkC l)[i * 3 + 2]? = some (.int .i64 (((gt l i).dist : Nat) : Int)) := by
  induction l generalizing i with
  | nil => simp at h
  | cons a r ih =>
    cases i with
    | zero => simp [tkC, gt]
    | succ i =>
      have := ih i (by simpa using h)
      have e : ∀ k, (tkC (a :: r))[3 + k]? = (tkC r)[k]? := fun k => by
        simp only [tkC, List.flatMap_cons]
        rw [List.getElem?_append_right (by simp)]
        simp
      rw [show (i + 1) * 3 = 3 + i * 3 by omega, show 3 + i * 3 + 1 = 3 + (i * 3 + 1) by omega, show 3 + i * 3 + 2 = 3 + (i * 3 + 2) by omega, e, e, e]
      simpa [gt] using this
theorem TkAt.of_owns {w : World} {base g n cap : Nat} {ts : List GT} (h : w.ownsRow base 64 3 (.slice (some ⟨g, 0, none⟩) n cap) n (tkC ts)) : TkAt w g ts ∧ base ≤ g ∧ ts.length = n := by
  have h0 := h.1
  rw [tkC_length] at h0
  rcases h.2 with ⟨h1, _⟩ | ⟨g', cap', cur, hv, hb, hh, hn, hc, hs, ht⟩
  · cases h1
  · simp at hv
    obtain ⟨rfl, rfl⟩ := hv
    have hl : ts.length = n := by omega
    have key : ∀ k, k < n * 3 → w.cell? ⟨g, k, none⟩ = (tkC ts)[k]? := fun k hk => by
      rw [cell_of_heap hh, ← ht, List.getElem?_take, if_pos hk, Array.getElem?_toList]
    refine ⟨⟨lt_of_heap hh, fun i hi => ?_, fun i hi => ?_, fun i hi => ?_⟩, hb, hl⟩
    · rw [key _ (by omega)]; exact (tkC_get ts i hi).1
    · rw [key _ (by omega)]; exact (tkC_get ts i hi).2.1
    · rw [key _ (by omega)]; exact (tkC_get ts i hi).2.2

/-- The finder in memory. -/
structure FnAt (w : World) (F gb ob cb gl ga : Nat) (b : List UInt8) (tries : Nat) (LT AH : List Int) (nx : Nat) : Prop where
  box : w.heap[F]? = some (.cells #[.slice (some ⟨gb, ob, none⟩) b.length cb, .int .i64 (tries : Int), .slice (some ⟨gl, 0, none⟩) 4096 4096, .slice (some ⟨ga, 0, none⟩) b.length b.length, .int .i64 (nx : Int)] 86 (0, 0))
  lat : w.heap[gl]? = some (.cells (ints LT) 3 (0, 0))
  ahe : w.heap[ga]? = some (.cells (ints AH) 3 (0, 0))
  ltl : LT.length = 4096
  ahl : AH.length = b.length
  fl : F ≠ gl
  fa : F ≠ ga
  la : gl ≠ ga
  bytes : Lies w gb ob b
  gbF : gb ≠ F
  gbl : gb ≠ gl
  gba : gb ≠ ga
  small : b.length ≤ 30000
theorem FnAt.fr {S : Nat → Prop} {w w' : World} {F gb ob cb gl ga tries nx : Nat} {b : List UInt8} {LT AH : List Int} (h : FnAt w F gb ob cb gl ga b tries LT AH nx) (f : Fr S w w') (h1 : ¬ S F) (h2 : ¬ S gl) (h3 : ¬ S ga) (h4 : ¬ S gb) : FnAt w' F gb ob cb gl ga b tries LT AH nx :=
  ⟨(f.block _ (lt_of_heap h.box) h1).trans h.box, (f.block _ (lt_of_heap h.lat) h2).trans h.lat, (f.block _ (lt_of_heap h.ahe) h3).trans h.ahe, h.ltl, h.ahl, h.fl, h.fa, h.la, h.bytes.keep f h4, h.gbF, h.gbl, h.gba, h.small⟩

/-- The number that three bytes mix to. -/
def mixV (x y z : Int) : Int := bits BinOp.or IntKind.u32 (bits BinOp.or IntKind.u32 x (y * 256)) (z * 65536) * 2654435761 % 4294967296 / 1048576
theorem mixV_lt (x y z : Int) : 0 ≤ mixV x y z ∧ mixV x y z < 4096 := by
  unfold mixV
  generalize bits BinOp.or IntKind.u32 (bits BinOp.or IntKind.u32 x (y * 256)) (z * 65536) * 2654435761 = q
  omega
def mix (b : List UInt8) (i : Nat) : Nat := (mixV ((b.getD i 0).toNat : Int) ((b.getD (i + 1) 0).toNat : Int) ((b.getD (i + 2) 0).toNat : Int)).toNat
theorem mix_lt (b : List UInt8) (i : Nat) : mix b i < 4096 := by
  have := mixV_lt ((b.getD i 0).toNat : Int) ((b.getD (i + 1) 0).toNat : Int) ((b.getD (i + 2) 0).toNat : Int)
  unfold mix
  omega
theorem fr_drewN (w : World) (n : Nat) : Fr Non w (w.drewN n) := ⟨rfl, rfl, rfl, Nat.le_refl _, fun _ _ _ => rfl⟩

set_option maxRecDepth 100000 in
set_option maxHeartbeats 1000000 in
theorem mixed_any (F gb ob cb gl ga tries nx at_ : Nat) (b : List UInt8) (LT AH : List Int) (w : World) (h : FnAt w F gb ob cb gl ga b tries LT AH nx) (hat : at_ + 2 < b.length) :
    Calls Tryd.prog 49 #[.pointer (some ⟨F, 0, none⟩), .int .i64 (at_ : Int)] w fun e w' => e = .returned (.int .u32 ((mix b at_ : Nat) : Int)) ∧ ∃ nq, w' = w.drewN nq := by
  have c0 : w.cell? ⟨F, 0, none⟩ = some (.slice (some ⟨gb, ob, none⟩) b.length cb) := cell_of_heap h.box 0
  have a0 := h.bytes at_ (by omega)
  have a1 := h.bytes (at_ + 1) (by omega)
  have a2 := h.bytes (at_ + 2) (by omega)
  have u0 := u8_lt (b.getD at_ 0)
  have u1 := u8_lt (b.getD (at_ + 1) 0)
  have u2 := u8_lt (b.getD (at_ + 2) 0)
  have hmix : ((mix b at_ : Nat) : Int) = mixV ((b.getD at_ 0).toNat : Int) ((b.getD (at_ + 1) 0).toNat : Int) ((b.getD (at_ + 2) 0).toNat : Int) := by
    have := mixV_lt ((b.getD at_ 0).toNat : Int) ((b.getD (at_ + 1) 0).toNat : Int) ((b.getD (at_ + 2) 0).toNat : Int)
    unfold mix
    omega
  rw [hmix]
  generalize ((b.getD at_ 0).toNat : Int) = x at a0 u0 ⊢
  generalize ((b.getD (at_ + 1) 0).toNat : Int) = y at a1 u1 ⊢
  generalize ((b.getD (at_ + 2) 0).toNat : Int) = z at a2 u2 ⊢
  have hsm := h.small
  obtain ⟨n, hn⟩ : ∃ n, b.length = n := ⟨_, rfl⟩
  rw [hn] at c0 hat hsm
  have i1 : (at_ : Int) < (n : Int) := by omega
  have i2 : (at_ : Int) + 1 < (n : Int) := by omega
  have i3 : (at_ : Int) + 2 < (n : Int) := by omega
  have w1 : IntKind.i64.wrap ((at_ : Int) + 1) = (at_ : Int) + 1 := by rw [IntKind.wrap_i64]; omega
  have w2 : IntKind.i64.wrap ((at_ : Int) + 2) = (at_ : Int) + 2 := by rw [IntKind.wrap_i64]; omega
  clear h hn hmix
  go_enter Tryd.func49, Tryd.ntmps49
  go_wp2_with fail
  go_quiet (fail)
  go_wp2_with fail
  go_ret
  exact ⟨rfl, _, rfl⟩

set_option maxRecDepth 100000 in
set_option maxHeartbeats 400000 in
theorem single_any (F gb ob cb gl ga tries nx at_ : Nat) (b : List UInt8) (LT AH : List Int) (w : World) (h : FnAt w F gb ob cb gl ga b tries LT AH nx) (hat : at_ < b.length) :
    Calls Tryd.prog 47 #[.pointer (some ⟨F, 0, none⟩), .int .i64 (at_ : Int)] w fun e w' => e = .returned (.agg #[.int .u8 (((b.getD at_ 0).toNat : Nat) : Int), .int .i64 0, .int .i64 0]) ∧ Fr Non w w' := by
  have c0 : w.cell? ⟨F, 0, none⟩ = some (.slice (some ⟨gb, ob, none⟩) b.length cb) := cell_of_heap h.box 0
  have a0 := h.bytes at_ hat
  have hFl := lt_of_heap h.box
  have hgl : gb < w.heap.size := lt_of_cell a0
  have hsm := h.small
  generalize (((b.getD at_ 0).toNat : Nat) : Int) = x at a0 ⊢
  obtain ⟨n, hn⟩ : ∃ n, b.length = n := ⟨_, rfl⟩
  rw [hn] at c0 hat hsm
  have i1 : (at_ : Int) < (n : Int) := by omega
  clear h hn
  go_enter Tryd.func47, Tryd.ntmps47
  go_wp2_with fail
  (try simp only [Exit.inBlock, Exit.then])
  refine bodyPost_ret (results_cell_row rfl _ _ w.heap.size 64 #[.int .u8 x, .int .i64 0, .int .i64 0] (0, 0) _ rfl (heap_alloc_new _ _) Tryd.underlying64 rfl rfl) rfl ?_
  exact ⟨rfl, (Fr.refl _ _).alloc _⟩

set_option maxHeartbeats 400000 in
theorem worth_any (len d : Nat) (w : World) :
    Calls Tryd.prog 51 #[.int .i64 (len : Int), .int .i64 (d : Int)] w fun e w' => e = .returned (.bool (decide (3 < len ∨ (len = 3 ∧ d ≤ 4096)))) ∧ w' = w := by
  by_cases h1 : 3 < len
  · have hb : decide (3 < len ∨ (len = 3 ∧ d ≤ 4096)) = true := by simp [h1]
    rw [hb]
    go_enter Tryd.func51, Tryd.ntmps51
    go_wp2_with fail
    go_ret
    exact ⟨rfl, rfl⟩
  · by_cases h2 : len = 3
    · subst h2
      by_cases h3 : d ≤ 4096
      · have hb : decide (3 < 3 ∨ (3 = 3 ∧ d ≤ 4096)) = true := by simp [h3]
        rw [hb]
        have hd : decide ((d : Int) ≤ 4096) = true := by simp; omega
        go_enter Tryd.func51, Tryd.ntmps51
        go_wp2_with fail
        go_ret
        exact ⟨rfl, rfl⟩
      · have hb : decide (3 < 3 ∨ (3 = 3 ∧ d ≤ 4096)) = false := by simp [h3]
        rw [hb]
        have hd : decide ((d : Int) ≤ 4096) = false := by simp; omega
        go_enter Tryd.func51, Tryd.ntmps51
        go_wp2_with fail
        go_ret
        exact ⟨rfl, rfl⟩
    · have hb : decide (3 < len ∨ (len = 3 ∧ d ≤ 4096)) = false := by simp [h1, h2]
      rw [hb]
      have h2b : ((len : Int) == 3) = false := by simp; omega
      have hd : decide (3 < (len : Int)) = false := by simp; omega
      go_enter Tryd.func51, Tryd.ntmps51
      go_wp2_with fail
      go_ret
      exact ⟨rfl, rfl⟩

set_option maxRecDepth 100000 in
set_option maxHeartbeats 1000000 in
theorem alike_any (F gb ob cb gl ga tries nx place at_ room : Nat) (b : List UInt8) (LT AH : List Int) (w : World) (h : FnAt w F gb ob cb gl ga b tries LT AH nx) (hp : place < at_) (hr : at_ + room ≤ b.length) :
    Calls Tryd.prog 50 #[.pointer (some ⟨F, 0, none⟩), .int .i64 (place : Int), .int .i64 (at_ : Int), .int .i64 (room : Int)] w fun e w' => ∃ n : Nat, e = .returned (.int .i64 (n : Int)) ∧ n ≤ room ∧ (∀ k, k < n → b.getD (place + k) 0 = b.getD (at_ + k) 0) ∧ (n < room → b.getD (place + n) 0 ≠ b.getD (at_ + n) 0) ∧ ∃ nq, w' = w.drewN nq := by
  have hsm := h.small
  obtain ⟨n, hn⟩ : ∃ n, b.length = n := ⟨_, rfl⟩
  rw [hn] at hr hsm
  have HN : Hid (b.length = n) := hn; clear hn
  go_enter Tryd.func50, Tryd.ntmps50
  go_wp2_with fail
  go_loopw [9] (fun i wr => ∃ k nq : Nat, k ≤ room ∧ i = .int .i64 k ∧ Hid (∀ j, j < k → b.getD (place + j) 0 = b.getD (at_ + j) 0) ∧ wr = w.drewN nq) (fun i _ => room - (intOf i).toNat)
  case atStart => exact ⟨0, 0, by omega, rfl, fun j hj => by omega, rfl⟩
  case round =>
    obtain ⟨k, nq, hk, rfl, hall, rfl⟩ := hrel
    have c0 : w.cell? ⟨F, 0, none⟩ = some (.slice (some ⟨gb, ob, none⟩) n cb) := by
      have : w.cell? ⟨F, 0, none⟩ = some (.slice (some ⟨gb, ob, none⟩) b.length cb) := cell_of_heap h.box 0
      rw [HN.out] at this
      exact this
    by_cases hlt : k < room
    · have hl := HN.out
      have a0 : w.cell? ⟨gb, ob + (place + k), none⟩ = some (.int .u8 (((b.getD (place + k) 0).toNat : Nat) : Int)) := h.bytes (place + k) (by omega)
      have a1 : w.cell? ⟨gb, ob + (at_ + k), none⟩ = some (.int .u8 (((b.getD (at_ + k) 0).toNat : Nat) : Int)) := h.bytes (at_ + k) (by omega)
      obtain ⟨x, hx⟩ : ∃ x, b.getD (place + k) 0 = x := ⟨_, rfl⟩
      obtain ⟨y, hy⟩ : ∃ y, b.getD (at_ + k) 0 = y := ⟨_, rfl⟩
      rw [hx] at a0
      rw [hy] at a1
      have i0 : (k : Int) < (room : Int) := by omega
      have i1 : (place : Int) + (k : Int) < (n : Int) := by omega
      have i2 : (at_ : Int) + (k : Int) < (n : Int) := by omega
      have w1 : IntKind.i64.wrap ((place : Int) + (k : Int)) = (place : Int) + (k : Int) := by rw [IntKind.wrap_i64]; omega
      have w2 : IntKind.i64.wrap ((at_ : Int) + (k : Int)) = (at_ : Int) + (k : Int) := by rw [IntKind.wrap_i64]; omega
      have HX : Hid _ := hx; clear hx
      have HY : Hid _ := hy; clear hy
      clear hl
      by_cases hxy : x = y
      · subst hxy
        go_wp2_with fail
        go_quiet (fail)
        go_wp2_with fail
        go_roundw
        case rel =>
          refine ⟨k + 1, _, by omega, by go_num, fun j hj => ?_, rfl⟩
          by_cases e : j = k
          · rw [e, HX.out, HY.out]
          · exact hall.out j (by omega)
        case measure => simp [intOf]; omega
      · have hne : (((x.toNat : Nat) : Int) == ((y.toNat : Nat) : Int)) = false := by
          simp only [beq_eq_false_iff_ne, ne_eq]
          intro e
          exact hxy (UInt8.toNat_inj.1 (by omega))
        go_wp2_with fail
        go_quiet (fail)
        go_wp2_with fail
        go_ret
        exact ⟨k, rfl, hk, hall.out, fun _ => by rw [HX.out, HY.out]; exact hxy, _, World.drewN_drewN ..⟩
    · have : k = room := by omega
      subst this
      have i0 : ¬ (k : Int) < (k : Int) := by omega
      have i00 : decide ((k : Int) < (k : Int)) = false := by simp
      go_wp2_with fail
      go_quiet (fail)
      go_wp2_with fail
      go_ret
      exact ⟨k, rfl, hk, hall.out, fun h => by omega, _, World.drewN_drewN ..⟩

end Go.Proofs.YtdpobjgfnhjagaaDoor

namespace Go.Proofs.YtdpobjgfnhjagaaDoor
open Go.RowKit

/-- What the finder's lists hold, when all places ahead of nx are in chains. -/
structure FI (b : List UInt8) (LT AH : List Int) (nx : Nat) : Prop where
  nxl : nx ≤ b.length
  lt : ∀ h, -1 ≤ LT.getD h (-1) ∧ LT.getD h (-1) < nx
  ah : ∀ p, p < nx → -1 ≤ AH.getD p 0 ∧ AH.getD p 0 < p
  last : 0 < nx → LT.getD (mix b (nx - 1)) (-1) = ((nx - 1 : Nat) : Int)

theorem getD_setI (l : List Int) (i j : Nat) (v d : Int) (hi : i < l.length) : (l.set i v).getD j d = if j = i then v else l.getD j d := by
  simp only [List.getD, List.getElem?_set]
  by_cases h : j = i
  · subst h; simp [hi]
  · rw [if_neg (fun e => h e.symm), if_neg h]
theorem getD_def (l : List Int) (i : Nat) (d d' : Int) (hi : i < l.length) : l.getD i d = l.getD i d' := by
  simp [List.getD, hi]

theorem FI.step {b : List UInt8} {LT AH : List Int} {nx : Nat} (h : FI b LT AH nx) (h1 : LT.length = 4096) (h2 : AH.length = b.length) (hx : nx < b.length) : FI b (LT.set (mix b nx) (nx : Int)) (AH.set nx (LT.getD (mix b nx) 0)) (nx + 1) := by
  have hm := mix_lt b nx
  have e : LT.getD (mix b nx) 0 = LT.getD (mix b nx) (-1) := getD_def _ _ _ _ (by omega)
  rw [e]
  refine ⟨by omega, fun q => ?_, fun p hp => ?_, fun _ => ?_⟩
  · rw [getD_setI _ _ _ _ _ (by omega)]
    by_cases c : q = mix b nx
    · rw [if_pos c]; omega
    · rw [if_neg c]; have := h.lt q; omega
  · rw [getD_setI _ _ _ _ _ (by omega)]
    by_cases c : p = nx
    · rw [if_pos c, c]; exact h.lt _
    · rw [if_neg c]; exact h.ah p (by omega)
  · rw [Nat.add_sub_cancel, getD_setI _ _ _ _ _ (by omega), if_pos rfl]

def nxOf (w : World) (F : Nat) : Nat := match w.cell? ⟨F, 4, none⟩ with | some (.int _ v) => v.toNat | _ => 0
abbrev Fin3 (F gl ga : Nat) : Nat → Prop := fun k => k = F ∨ k = gl ∨ k = ga

/-- The cells that a round of chain reads and writes. -/
structure ChC (F gl ga n M x mx : Nat) (v z : Int) (w : World) : Prop where
  c2 : w.cell? ⟨F, 2, none⟩ = some (.slice (some ⟨gl, 0, none⟩) M M)
  c3 : w.cell? ⟨F, 3, none⟩ = some (.slice (some ⟨ga, 0, none⟩) n n)
  c4 : w.cell? ⟨F, 4, none⟩ = some (.int .i64 (x : Int))
  e5 : w.cell? ⟨gl, mx, none⟩ = some (.int .i64 v)
  e6 : w.cell? ⟨ga, x, none⟩ = some (.int .i64 z)
  f1 : ∀ i, w.frozen? ⟨F, i, none⟩ = false
  f2 : ∀ i, w.frozen? ⟨gl, i, none⟩ = false
  f3 : ∀ i, w.frozen? ⟨ga, i, none⟩ = false

set_option maxRecDepth 100000 in
set_option maxHeartbeats 2000000 in
theorem chain_walk (F gl ga n M until_ nx : Nat) (P : Nat → World → Prop) (w : World) (h0 : P nx w) (hnx : nx ≤ until_) (hul : until_ < 100000)
    (_n1 : ¬ F = gl) (_n2 : ¬ F = ga) (_n3 : ¬ gl = ga) (n1' : ¬ gl = F) (n2' : ¬ ga = F) (n3' : ¬ ga = gl)
    (hc4 : ∀ x wr, P x wr → wr.cell? ⟨F, 4, none⟩ = some (.int .i64 (x : Int)))
    (hstep : ∀ x wr, P x wr → x < until_ → ∃ (mx : Nat) (v z : Int), (x : Int) < (n : Int) ∧ (mx : Int) < (M : Int) ∧ Calls Tryd.prog 49 #[.pointer (some ⟨F, 0, none⟩), .int .i64 (x : Int)] wr fun e w1 => e = .returned (.int .u32 (mx : Int)) ∧ ChC F gl ga n M x mx v z w1 ∧ P (x + 1) ((((w1.setCell ⟨ga, x, none⟩ (.int .i64 v)).setCell ⟨gl, mx, none⟩ (.int .i64 (x : Int))).setCell ⟨F, 4, none⟩ (.int .i64 ((x : Int) + 1))).drewN 2)) :
    Calls Tryd.prog 48 #[.pointer (some ⟨F, 0, none⟩), .int .i64 (until_ : Int)] w fun e w' => e = .returned (.tuple #[]) ∧ P until_ w' := by
  go_enter Tryd.func48, Tryd.ntmps48
  go_wp2_with fail
  go_loopw [4] (fun _ wr => ∃ x : Nat, x ≤ until_ ∧ P x wr) (fun _ wr => until_ - nxOf wr F)
  case atStart => exact ⟨nx, hnx, h0⟩
  case round =>
    obtain ⟨x, hx, hP⟩ := hrel
    have c4 := hc4 x wr hP
    by_cases hlt : x < until_
    · obtain ⟨mx, v, z, i2, i3, hcall⟩ := hstep x wr hP hlt
      have HC : Hid _ := hcall
      have HX4 : Hid (wr.cell? ⟨F, 4, none⟩ = some (.int .i64 (x : Int))) := c4
      clear hcall hstep
      have i1 : (x : Int) < (until_ : Int) := by omega
      go_wp2_with fail
      refine Calls.mono HC.out ?_
      rintro e w1 ⟨rfl, ⟨c2, c3, c4', e5, e6, f1, f2, f3⟩, hfin⟩
      have HFIN : Hid _ := hfin
      clear HC hfin c4
      go_wp2_with fail
      go_region
      go_wp2_with fail
      go_region
      go_wp2_with fail
      go_roundw
      case rel => exact ⟨x + 1, by omega, HFIN.out⟩
      case measure =>
        have e1 := hc4 _ _ HFIN.out
        have e2 : nxOf wr F = x := by unfold nxOf; rw [HX4.out]; simp
        have e3 : nxOf ((((w1.setCell ⟨ga, x, none⟩ (.int .i64 v)).setCell ⟨gl, mx, none⟩ (.int .i64 (x : Int))).setCell ⟨F, 4, none⟩ (.int .i64 ((x : Int) + 1))).drewN 2) F = x + 1 := by
          unfold nxOf
          rw [e1]
          simp
        have e4 : nxOf ((((w1.setCell ⟨ga, x, none⟩ (.int .i64 v)).setCell ⟨gl, mx, none⟩ (.int .i64 (x : Int))).setCell ⟨F, 4, none⟩ (.int .i64 ((x : Int) + 1))).drew.drew) F = x + 1 := e3
        rw [e2, e4]
        omega
    · have : x = until_ := by omega
      subst this
      go_wp2_with fail
      go_end0
      exact ⟨rfl, hP⟩

theorem chain_any (F gb ob cb gl ga tries nx until_ : Nat) (b : List UInt8) (LT AH : List Int) (w : World) (h : FnAt w F gb ob cb gl ga b tries LT AH nx) (hI : FI b LT AH nx) (hnx : nx ≤ until_) (hu : until_ + 2 ≤ b.length) :
    Calls Tryd.prog 48 #[.pointer (some ⟨F, 0, none⟩), .int .i64 (until_ : Int)] w fun e w' => e = .returned (.tuple #[]) ∧ ∃ LT' AH', FnAt w' F gb ob cb gl ga b tries LT' AH' until_ ∧ FI b LT' AH' until_ ∧ Fr (Fin3 F gl ga) w w' := by
  have hsm := h.small
  refine chain_walk F gl ga b.length 4096 until_ nx (fun x wr => ∃ LT' AH', FnAt wr F gb ob cb gl ga b tries LT' AH' x ∧ FI b LT' AH' x ∧ Fr (Fin3 F gl ga) w wr) w ⟨LT, AH, h, hI, Fr.refl _ _⟩ hnx (by omega) h.fl h.fa h.la (fun e => h.fl e.symm) (fun e => h.fa e.symm) (fun e => h.la e.symm) ?_ ?_
  · rintro x wr ⟨LT, AH, hF, _, _⟩
    exact cell_of_heap hF.box 4
  · rintro x wr ⟨LT, AH, hF, hI, hfr⟩ hx
    have hm := mix_lt b x
    refine ⟨mix b x, LT.getD (mix b x) 0, AH.getD x 0, by omega, by omega, (mixed_any F gb ob cb gl ga tries x x b LT AH wr hF (by omega)).mono ?_⟩
    rintro e w1 ⟨rfl, nq, rfl⟩
    have hF1 : FnAt (wr.drewN nq) F gb ob cb gl ga b tries LT AH x := hF.fr (fr_drewN _ _) (fun e => e) (fun e => e) (fun e => e) (fun e => e)
    refine ⟨rfl, ⟨cell_of_heap hF1.box 2, cell_of_heap hF1.box 3, cell_of_heap hF1.box 4, cell_ints hF1.lat _ (by rw [hF1.ltl]; exact hm), cell_ints hF1.ahe _ (by rw [hF1.ahl]; omega), free_of_heap hF1.box, free_of_heap hF1.lat, free_of_heap hF1.ahe⟩, ?_⟩
    have fS : Fr (Fin3 F gl ga) wr (((((wr.drewN nq).setCell ⟨ga, x, none⟩ (.int .i64 (LT.getD (mix b x) 0))).setCell ⟨gl, mix b x, none⟩ (.int .i64 (x : Int))).setCell ⟨F, 4, none⟩ (.int .i64 ((x : Int) + 1))).drewN 2) :=
      ((((Fr.refl (Fin3 F gl ga) wr).trans ((fr_drewN wr nq).mono fun _ _ e => e.elim)).setCell (p := ⟨ga, x, none⟩) (Or.inr (Or.inr rfl)) _).setCell (p := ⟨gl, mix b x, none⟩) (Or.inr (Or.inl rfl)) _).setCell (p := ⟨F, 4, none⟩) (Or.inl rfl) _ |>.trans ((fr_drewN _ 2).mono fun _ _ e => e.elim)
    refine ⟨LT.set (mix b x) (x : Int), AH.set x (LT.getD (mix b x) 0), ⟨?_, ?_, ?_, by simpa using hF.ltl, by simpa using hF.ahl, hF.fl, hF.fa, hF.la, ?_, hF.gbF, hF.gbl, hF.gba, hF.small⟩, hI.step hF.ltl hF.ahl (by omega), hfr.trans fS⟩
    · have h1 := heap_set ((heap_set_other hF.fl (mix b x) (.int .i64 (x : Int))).trans ((heap_set_other hF.fa x (.int .i64 (LT.getD (mix b x) 0))).trans hF1.box)) 4 (.int .i64 ((x : Int) + 1))
      have e : ((x : Int) + 1) = ((x + 1 : Nat) : Int) := by simp
      rw [e] at h1
      rw [e]
      exact h1
    · exact (heap_set_other (fun e => hF.fl e.symm) 4 (.int .i64 ((x : Int) + 1))).trans (set_ints ((heap_set_other hF.la x (.int .i64 (LT.getD (mix b x) 0))).trans hF1.lat) (mix b x) (x : Int))
    · exact (heap_set_other (fun e => hF.fa e.symm) 4 (.int .i64 ((x : Int) + 1))).trans ((heap_set_other (fun e => hF.la e.symm) (mix b x) (.int .i64 (x : Int))).trans (set_ints hF1.ahe x (LT.getD (mix b x) 0)))
    · exact hF.bytes.keep fS (fun e => e.elim hF.gbF (fun e => e.elim hF.gbl hF.gba))

end Go.Proofs.YtdpobjgfnhjagaaDoor

namespace Go.Proofs.YtdpobjgfnhjagaaDoor
open Go.RowKit

/-- A length and a distance that may stand at a place, or none. -/
def TkI (b : List UInt8) (at_ room len dist : Nat) : Prop :=
  (len = 0 ∧ dist = 0) ∨ (3 ≤ len ∧ len ≤ room ∧ 1 ≤ dist ∧ dist ≤ at_ ∧ ∀ k, k < len → b.getD (at_ + k) 0 = b.getD (at_ + k - dist) 0)
/-- All bytes are equal. -/
def EqB (b : List UInt8) : Prop := ∀ i j, i < b.length → j < b.length → b.getD i 0 = b.getD j 0

theorem FnAt.set {w : World} {F gb ob cb gl ga tries nx : Nat} {b : List UInt8} {LT AH : List Int} (h : FnAt w F gb ob cb gl ga b tries LT AH nx) (k i : Nat) (v : Value) (h1 : k ≠ F) (h2 : k ≠ gl) (h3 : k ≠ ga) (h4 : k ≠ gb) : FnAt (w.setCell ⟨k, i, none⟩ v) F gb ob cb gl ga b tries LT AH nx :=
  h.fr (S := One k) ((Fr.refl (One k) w).setCell (p := ⟨k, i, none⟩) rfl v) (fun e => h1 e.symm) (fun e => h2 e.symm) (fun e => h3 e.symm) (fun e => h4 e.symm)
theorem FnAt.alloc {w : World} {F gb ob cb gl ga tries nx : Nat} {b : List UInt8} {LT AH : List Int} (h : FnAt w F gb ob cb gl ga b tries LT AH nx) (o : Obj) : FnAt (w.alloc o) F gb ob cb gl ga b tries LT AH nx :=
  h.fr (S := Non) ((Fr.refl _ w).alloc o) (fun e => e) (fun e => e) (fun e => e) (fun e => e)
theorem FnAt.lts {w : World} {F gb ob cb gl ga tries nx : Nat} {b : List UInt8} {LT AH : List Int} (h : FnAt w F gb ob cb gl ga b tries LT AH nx) (h0 : 0 < b.length) : F < w.heap.size ∧ gl < w.heap.size ∧ ga < w.heap.size ∧ gb < w.heap.size :=
  ⟨lt_of_heap h.box, lt_of_heap h.lat, lt_of_heap h.ahe, lt_of_cell (h.bytes 0 h0)⟩

theorem tkI_new (b : List UInt8) (at_ room p k : Nat) (hp : p < at_) (hk : k ≤ room) (hk3 : 3 ≤ k) (h : ∀ j, j < k → b.getD (p + j) 0 = b.getD (at_ + j) 0) : TkI b at_ room k (at_ - p) := by
  refine Or.inr ⟨hk3, hk, by omega, by omega, fun j hj => ?_⟩
  rw [← h j hj, show at_ + j - (at_ - p) = p + j by omega]

/-- What the walk of 'longest' needs of the finder: P1 behind the chain, P2 behind the single, L in the loop. -/
structure LgH (F gb ob cb gl ga n M at_ room mx tries R : Nat) (x : Int) (w : World) (P1 P2 : World → Prop) (L : World → Nat → Int → Nat → Nat → Nat → Prop) : Prop where
  chain : Calls Tryd.prog 48 #[.pointer (some ⟨F, 0, none⟩), .int .i64 (at_ : Int)] (w.alloc (.cells #[.int .u8 0, .int .i64 0, .int .i64 0] 64)) fun e w1 => e = .returned (.tuple #[]) ∧ P1 w1
  single : ∀ w1, P1 w1 → Calls Tryd.prog 47 #[.pointer (some ⟨F, 0, none⟩), .int .i64 (at_ : Int)] w1 fun e w2 => e = .returned (.agg #[.int .u8 x, .int .i64 0, .int .i64 0]) ∧ P2 w2
  c1 : ∀ w2, P2 w2 → w2.cell? ⟨F, 1, none⟩ = some (.int .i64 (tries : Int))
  c2 : ∀ w2, P2 w2 → w2.cell? ⟨F, 2, none⟩ = some (.slice (some ⟨gl, 0, none⟩) M M)
  cl : ∀ w2, P2 w2 → ∃ p0, w2.cell? ⟨gl, mx, none⟩ = some (.int .i64 p0) ∧ ∀ k, L ((w2.alloc (.cells #[.int .u8 x, .int .i64 0, .int .i64 0] 64)).drewN k) w2.heap.size p0 tries 0 0
  lF : ∀ w2, P2 w2 → F < w2.heap.size
  lg : ∀ w2, P2 w2 → gl < w2.heap.size
  mix : ∀ w2 k, P2 w2 → Calls Tryd.prog 49 #[.pointer (some ⟨F, 0, none⟩), .int .i64 (at_ : Int)] ((w2.alloc (.cells #[.int .u8 x, .int .i64 0, .int .i64 0] 64)).drewN k) fun e w' => e = .returned (.int .u32 (mx : Int)) ∧ ∃ m, w' = (w2.alloc (.cells #[.int .u8 x, .int .i64 0, .int .i64 0] 64)).drewN m
  l1 : ∀ wr B p tr len dist, L wr B p tr len dist → wr.cell? ⟨B, 0, none⟩ = some (.int .u8 x) ∧ wr.cell? ⟨B, 1, none⟩ = some (.int .i64 (len : Int)) ∧ wr.cell? ⟨B, 2, none⟩ = some (.int .i64 (dist : Int)) ∧ (∀ i, wr.frozen? ⟨B, i, none⟩ = false) ∧ wr.cell? ⟨F, 3, none⟩ = some (.slice (some ⟨ga, 0, none⟩) n n) ∧ B ≠ F ∧ B ≠ ga ∧ B ≠ R ∧ len ≤ 300 ∧ tr ≤ 2000 ∧ dist ≤ 40000 ∧ wr.heap[R]? = some (.cells #[.int .u8 0, .int .i64 0, .int .i64 0] 64 (0, 0)) ∧ p < at_ ∧ -1 ≤ p
  step : ∀ wr B (p : Nat) tr len dist, L wr B p tr len dist → 0 < tr → len < room → p < at_ ∧ Calls Tryd.prog 50 #[.pointer (some ⟨F, 0, none⟩), .int .i64 (p : Int), .int .i64 (at_ : Int), .int .i64 (room : Int)] wr fun e w1 => ∃ (k : Nat) (q : Int), e = .returned (.int .i64 (k : Int)) ∧ w1.cell? ⟨ga, p, none⟩ = some (.int .i64 q) ∧ (len < k ∧ (3 < k ∨ (k = 3 ∧ at_ - p ≤ 4096)) → L ((w1.setCell ⟨B, 1, none⟩ (.int .i64 (k : Int))).setCell ⟨B, 2, none⟩ (.int .i64 ((at_ - p : Nat) : Int))) B q (tr - 1) k (at_ - p)) ∧ (¬ (len < k ∧ (3 < k ∨ (k = 3 ∧ at_ - p ≤ 4096))) → L w1 B q (tr - 1) len dist) ∧ k ≤ 258 ∧ L w1 B p tr len dist

def LgEnd (tr : Nat) (p : Int) (len room : Nat) : Prop := ¬ (0 < tr ∧ 0 ≤ p ∧ len < room)

set_option maxRecDepth 100000 in
set_option maxHeartbeats 2000000 in
theorem long_walk (F gb ob cb gl ga n M at_ room mx tries : Nat) (x : Int) (w : World) (P1 P2 : World → Prop) (L : World → Nat → Int → Nat → Nat → Nat → Prop) (H : LgH F gb ob cb gl ga n M at_ room mx tries w.heap.size x w P1 P2 L)
    (c0 : w.cell? ⟨F, 0, none⟩ = some (.slice (some ⟨gb, ob, none⟩) n cb)) (hF : F < w.heap.size) (hn : n ≤ 30000) (_hat : at_ ≤ n) (hmin : min (258 : Int) ((n : Int) - (at_ : Int)) = (room : Int)) (hr3 : 3 ≤ room) (hatn : at_ < n) (i3 : (mx : Int) < (M : Int)) (_ht2 : tries ≤ 2000) :
    Calls Tryd.prog 29 #[.pointer (some ⟨F, 0, none⟩), .int .i64 (at_ : Int)] w fun e w' => ∃ wr B p tr len dist, L wr B p tr len dist ∧ LgEnd tr p len room ∧ e = .returned (.agg #[.int .u8 x, .int .i64 (len : Int), .int .i64 (dist : Int)]) ∧ w' = ((wr.setCell ⟨w.heap.size, 0, none⟩ (.int .u8 x)).setCell ⟨w.heap.size, 1, none⟩ (.int .i64 (len : Int))).setCell ⟨w.heap.size, 2, none⟩ (.int .i64 (dist : Int)) := by
  have hr3i : (3 : Int) ≤ (room : Int) := by omega
  have HC : Hid _ := H.chain
  go_enter Tryd.func29, Tryd.ntmps29
  go_wp2_with fail
  refine Calls.mono HC.out ?_
  rintro e w1 ⟨rfl, hP1⟩
  have HS : Hid _ := H.single w1 hP1
  clear HC
  go_wp2_with fail
  refine Calls.mono HS.out ?_
  rintro e w2 ⟨rfl, hP2⟩
  have d1 := H.c1 w2 hP2
  have d2 := H.c2 w2 hP2
  obtain ⟨p0, dl, hl0⟩ := H.cl w2 hP2
  have HL00 : Hid _ := hl0; clear hl0
  have s1 := H.lF w2 hP2
  have s2 := H.lg w2 hP2
  clear HS
  have HM : Hid _ := fun k => H.mix w2 k hP2
  go_wp2_with fail
  go_quiet ((go_at_call 49; exact HM.out _))
  go_wp2_with fail
  have HL0 : Hid _ := HL00.out nq
  clear HM d1 d2 dl
  go_loopw [7, 8] (fun pv tv wr => ∃ (p : Int) (tr len dist : Nat), pv = .int .i64 p ∧ tv = .int .i64 tr ∧ L wr w2.heap.size p tr len dist) (fun _ tv _ => (intOf tv).toNat)
  case atStart => exact ⟨p0, tries, 0, 0, rfl, rfl, HL0.out⟩
  case round =>
    obtain ⟨p, tr, len, dist, rfl, rfl, hL⟩ := hrel
    obtain ⟨a0, a1, a2, fB, c3, nF, na, nR, hlen, htr, hdist, hR, hpat, hp1⟩ := H.l1 wr w2.heap.size p tr len dist hL
    have e0 : wr.cell? ⟨w.heap.size, 0, none⟩ = some (.int .u8 0) := cell_of_heap hR 0
    have e1 : wr.cell? ⟨w.heap.size, 1, none⟩ = some (.int .i64 0) := cell_of_heap hR 1
    have e2 : wr.cell? ⟨w.heap.size, 2, none⟩ = some (.int .i64 0) := cell_of_heap hR 2
    have fR := free_of_heap hR
    have HR : Hid (wr.heap[w.heap.size]? = some (.cells #[.int .u8 0, .int .i64 0, .int .i64 0] 64 (0, 0))) := hR
    have hRl := lt_of_heap hR
    have hBl := lt_of_cell a0
    clear hR
    have fin : LgEnd tr p len room → ∃ wr' B p tr len' dist', L wr' B p tr len' dist' ∧ LgEnd tr p len' room ∧ Ending.returned (.agg #[.int .u8 x, .int .i64 (len : Int), .int .i64 (dist : Int)]) = .returned (.agg #[.int .u8 x, .int .i64 (len' : Int), .int .i64 (dist' : Int)]) ∧ ((wr.setCell ⟨w.heap.size, 0, none⟩ (.int .u8 x)).setCell ⟨w.heap.size, 1, none⟩ (.int .i64 (len : Int))).setCell ⟨w.heap.size, 2, none⟩ (.int .i64 (dist : Int)) = ((wr'.setCell ⟨w.heap.size, 0, none⟩ (.int .u8 x)).setCell ⟨w.heap.size, 1, none⟩ (.int .i64 (len' : Int))).setCell ⟨w.heap.size, 2, none⟩ (.int .i64 (dist' : Int)) := fun hx => ⟨wr, w2.heap.size, p, tr, len, dist, hL, hx, rfl, rfl⟩
    have hset := heap_set (heap_set (heap_set HR.out 0 (.int .u8 x)) 1 (.int .i64 (len : Int))) 2 (.int .i64 (dist : Int))
    have HSET : Hid _ := hset; clear hset
    have FIN : Hid _ := fin; clear fin
    by_cases t0 : 0 < tr
    · by_cases p0' : 0 ≤ p
      · by_cases hl : len < room
        · obtain ⟨pn, rfl⟩ := Int.eq_ofNat_of_zero_le p0'
          obtain ⟨hpa, hcall⟩ := H.step wr w2.heap.size pn tr len dist hL t0 hl
          have HC : Hid _ := hcall
          clear hcall FIN HSET
          have g1 : (0 : Int) < (tr : Int) := by omega
          have g3 : (len : Int) < (room : Int) := by omega
          go_wp2_with fail
          refine Calls.mono HC.out ?_
          rintro e w5 ⟨k, q, rfl, hq, hyes, hno, hk, hL5⟩
          obtain ⟨b0, b1, b2, fB5, c35, nF5, na5, nR5, _, _, _, hR5, _, _⟩ := H.l1 w5 w2.heap.size pn tr len dist hL5
          have hBl5 := lt_of_cell b0
          have HYES : Hid _ := hyes
          have HNO : Hid _ := hno
          clear hyes hno hR5 HC a0 a1 a2 fB c3 e0 e1 e2 fR
          have hsub : ((at_ : Int) - (pn : Int)) = ((at_ - pn : Nat) : Int) := by omega
          have hpan : (pn : Int) < (n : Int) := by omega
          have HSUB : Hid _ := hsub; clear hsub
          by_cases hk1 : len < k
          · have g4 : (len : Int) < (k : Int) := by omega
            have hw := fun W => worth_any k (at_ - pn) W
            rw [← HSUB.out] at hw
            go_wp2_with fail
            refine (hw _).mono ?_
            rintro e w6 ⟨rfl, rfl⟩
            by_cases hwo : 3 < k ∨ (k = 3 ∧ at_ - pn ≤ 4096)
            · have hd : decide (3 < k ∨ (k = 3 ∧ at_ - pn ≤ 4096)) = true := decide_eq_true hwo
              rw [hd]
              have hy := HYES.out ⟨hk1, hwo⟩
              have HY : Hid _ := hy
              clear hw hd hy HYES HNO
              go_wp2_with fail
              go_roundw
              case rel =>
                refine ⟨q, tr - 1, k, at_ - pn, rfl, by go_num, ?_⟩
                have := HY.out
                rw [← HSUB.out] at this
                exact this
              case measure => simp [intOf]; omega
            · have hd : decide (3 < k ∨ (k = 3 ∧ at_ - pn ≤ 4096)) = false := decide_eq_false hwo
              rw [hd]
              have hy := HNO.out (fun h => hwo h.2)
              have HY : Hid _ := hy
              clear hw hd hy HYES HNO
              go_wp2_with fail
              go_roundw
              case rel => exact ⟨q, tr - 1, len, dist, rfl, by go_num, HY.out⟩
              case measure => simp [intOf]; omega
          · have g4 : ¬ (len : Int) < (k : Int) := by omega
            have g4b : decide ((len : Int) < (k : Int)) = false := by simp; omega
            have hy := HNO.out (fun h => hk1 h.1)
            have HY : Hid _ := hy
            clear hy HYES HNO
            go_wp2_with fail
            go_roundw
            case rel => exact ⟨q, tr - 1, len, dist, rfl, by go_num, HY.out⟩
            case measure => simp [intOf]; omega
        · have g1 : (0 : Int) < (tr : Int) := by omega
          have g3 : ¬ (len : Int) < (room : Int) := by omega
          have g3b : decide ((len : Int) < (room : Int)) = false := by simp; omega
          go_wp2_with fail
          (try simp only [Exit.inBlock, Exit.then])
          refine bodyPost_ret (results_cell_row rfl _ _ w.heap.size 64 #[.int .u8 x, .int .i64 (len : Int), .int .i64 (dist : Int)] (0, 0) _ rfl HSET.out Tryd.underlying64 rfl rfl) rfl ?_
          exact FIN.out (fun h => absurd h.2.2 (by omega))
      · have g1 : (0 : Int) < (tr : Int) := by omega
        have g2b : decide ((0 : Int) ≤ p) = false := by simp; omega
        go_wp2_with fail
        (try simp only [Exit.inBlock, Exit.then])
        refine bodyPost_ret (results_cell_row rfl _ _ w.heap.size 64 #[.int .u8 x, .int .i64 (len : Int), .int .i64 (dist : Int)] (0, 0) _ rfl HSET.out Tryd.underlying64 rfl rfl) rfl ?_
        exact FIN.out (fun h => absurd h.2.1 (by omega))
    · have : tr = 0 := by omega
      subst this
      go_wp2_with fail
      (try simp only [Exit.inBlock, Exit.then])
      refine bodyPost_ret (results_cell_row rfl _ _ w.heap.size 64 #[.int .u8 x, .int .i64 (len : Int), .int .i64 (dist : Int)] (0, 0) _ rfl HSET.out Tryd.underlying64 rfl rfl) rfl ?_
      exact FIN.out (fun h => by omega)


set_option maxRecDepth 100000 in
set_option maxHeartbeats 1000000 in
theorem long_short (F gb ob cb gl ga tries nx at_ : Nat) (b : List UInt8) (LT AH : List Int) (w : World) (h : FnAt w F gb ob cb gl ga b tries LT AH nx) (hat : at_ < b.length) (hs : b.length < at_ + 3) :
    Calls Tryd.prog 29 #[.pointer (some ⟨F, 0, none⟩), .int .i64 (at_ : Int)] w fun e w' => e = .returned (.agg #[.int .u8 (((b.getD at_ 0).toNat : Nat) : Int), .int .i64 0, .int .i64 0]) ∧ Fr Non w w' := by
  have hsm := h.small
  have hFl := lt_of_heap h.box
  obtain ⟨W0, hW0⟩ : ∃ W0, W0 = w.alloc (.cells #[.int .u8 0, .int .i64 0, .int .i64 0] 64) := ⟨_, rfl⟩
  have h0 : FnAt W0 F gb ob cb gl ga b tries LT AH nx := by rw [hW0]; exact h.alloc _
  have r0 : W0.heap[w.heap.size]? = some (.cells #[.int .u8 0, .int .i64 0, .int .i64 0] 64 (0, 0)) := by rw [hW0]; exact heap_alloc_new _ _
  have f0 : Fr Non w W0 := by rw [hW0]; exact (Fr.refl _ _).alloc _
  have HS1 : Hid _ := single_any F gb ob cb gl ga tries nx at_ b LT AH W0 h0 hat
  generalize (((b.getD at_ 0).toNat : Nat) : Int) = x at HS1 ⊢
  obtain ⟨n, hn⟩ : ∃ n, b.length = n := ⟨_, rfl⟩
  have c0 : w.cell? ⟨F, 0, none⟩ = some (.slice (some ⟨gb, ob, none⟩) n cb) := by rw [← hn]; exact cell_of_heap h.box 0
  rw [hn] at hat hs hsm
  have hmin : min (258 : Int) ((n : Int) - (at_ : Int)) = (n : Int) - (at_ : Int) := by omega
  have hlt3 : (n : Int) - (at_ : Int) < 3 := by omega
  have R0 : Hid _ := r0
  clear h h0 hn r0
  go_enter Tryd.func29, Tryd.ntmps29
  go_wp2_with fail
  rw [← hW0]
  refine Calls.mono HS1.out ?_
  rintro e w1 ⟨rfl, f1⟩
  have hr1 : w1.heap[w.heap.size]? = some (.cells #[.int .u8 0, .int .i64 0, .int .i64 0] 64 (0, 0)) := (f1.block _ (lt_of_heap R0.out) (fun e => e)).trans R0.out
  have e0 : w1.cell? ⟨w.heap.size, 0, none⟩ = some (.int .u8 0) := cell_of_heap hr1 0
  have e1 : w1.cell? ⟨w.heap.size, 1, none⟩ = some (.int .i64 0) := cell_of_heap hr1 1
  have e2 : w1.cell? ⟨w.heap.size, 2, none⟩ = some (.int .i64 0) := cell_of_heap hr1 2
  have fR := free_of_heap hr1
  have HSET : Hid _ := heap_set (heap_set (heap_set hr1 0 (.int .u8 x)) 1 (.int .i64 0)) 2 (.int .i64 0)
  clear hr1
  go_wp2_with fail
  (try simp only [Exit.inBlock, Exit.then])
  refine bodyPost_ret (results_cell_row rfl _ _ w.heap.size 64 #[.int .u8 x, .int .i64 0, .int .i64 0] (0, 0) _ rfl HSET.out Tryd.underlying64 rfl rfl) rfl ?_
  refine ⟨rfl, ?_⟩
  have f2 := f0.trans f1
  exact (((f2.setNew (p := ⟨w.heap.size, 0, none⟩) (Nat.le_refl _) _).setNew (p := ⟨w.heap.size, 1, none⟩) (Nat.le_refl _) _).setNew (p := ⟨w.heap.size, 2, none⟩) (Nat.le_refl _) _)

end Go.Proofs.YtdpobjgfnhjagaaDoor

namespace Go.Proofs.YtdpobjgfnhjagaaDoor
open Go.RowKit

/-- What the loop of 'longest' keeps. -/
structure LgI (F gb ob cb gl ga at_ room tries R : Nat) (b : List UInt8) (w : World) (wr : World) (B : Nat) (p : Int) (tr len dist : Nat) : Prop where
  fin : ∃ LT AH, FnAt wr F gb ob cb gl ga b tries LT AH at_ ∧ FI b LT AH at_
  box : wr.heap[B]? = some (.cells #[.int .u8 (((b.getD at_ 0).toNat : Nat) : Int), .int .i64 (len : Int), .int .i64 (dist : Int)] 64 (0, 0))
  res : wr.heap[R]? = some (.cells #[.int .u8 0, .int .i64 0, .int .i64 0] 64 (0, 0))
  tk : TkI b at_ room len dist
  p1 : -1 ≤ p
  p2 : p < at_
  tr2 : tr ≤ 2000
  nF : B ≠ F
  nl : B ≠ gl
  na : B ≠ ga
  nb : B ≠ gb
  nR : B ≠ R
  eq : EqB b → 1 ≤ at_ → (len = room ∧ dist = 1) ∨ (p = (at_ : Int) - 1 ∧ len = 0 ∧ 0 < tr)
  fr : Fr (Fin3 F gl ga) w wr
  newB : w.heap.size ≤ B

theorem long_any (F gb ob cb gl ga tries nx at_ : Nat) (b : List UInt8) (LT AH : List Int) (w : World) (h : FnAt w F gb ob cb gl ga b tries LT AH nx) (hI : FI b LT AH nx) (hnx : nx ≤ at_) (hat : at_ < b.length) (ht : 1 ≤ tries) (ht2 : tries ≤ 2000) :
    Calls Tryd.prog 29 #[.pointer (some ⟨F, 0, none⟩), .int .i64 (at_ : Int)] w fun e w' => ∃ (len dist : Nat) (LT' AH' : List Int) (nx' : Nat), e = .returned (.agg #[.int .u8 (((b.getD at_ 0).toNat : Nat) : Int), .int .i64 (len : Int), .int .i64 (dist : Int)]) ∧ TkI b at_ (min 258 (b.length - at_)) len dist ∧ FnAt w' F gb ob cb gl ga b tries LT' AH' nx' ∧ FI b LT' AH' nx' ∧ nx' ≤ at_ ∧ Fr (Fin3 F gl ga) w w' ∧ (EqB b → 1 ≤ at_ → at_ + 3 ≤ b.length → len = min 258 (b.length - at_) ∧ dist = 1) := by
  have hsm := h.small
  by_cases hs : b.length < at_ + 3
  · refine (long_short F gb ob cb gl ga tries nx at_ b LT AH w h hat hs).mono ?_
    rintro e w' ⟨rfl, f⟩
    exact ⟨0, 0, LT, AH, nx, rfl, Or.inl ⟨rfl, rfl⟩, h.fr f (fun e => e) (fun e => e) (fun e => e) (fun e => e), hI, hnx, f.mono fun _ _ e => e.elim, fun _ _ h3 => by omega⟩
  · obtain ⟨l1, l2, l3, l4⟩ := h.lts (by omega)
    obtain ⟨room, hroom⟩ : ∃ r : Nat, min 258 (b.length - at_) = r := ⟨_, rfl⟩
    rw [hroom]
    have hm := mix_lt b at_
    have f0 : Fr Non w (w.alloc (.cells #[.int .u8 0, .int .i64 0, .int .i64 0] 64)) := (Fr.refl _ _).alloc _
    refine (long_walk F gb ob cb gl ga b.length 4096 at_ room (mix b at_) tries (((b.getD at_ 0).toNat : Nat) : Int) w
      (fun w1 => ∃ LT' AH', FnAt w1 F gb ob cb gl ga b tries LT' AH' at_ ∧ FI b LT' AH' at_ ∧ w1.heap[w.heap.size]? = some (.cells #[.int .u8 0, .int .i64 0, .int .i64 0] 64 (0, 0)) ∧ Fr (Fin3 F gl ga) w w1)
      (fun w1 => ∃ LT' AH', FnAt w1 F gb ob cb gl ga b tries LT' AH' at_ ∧ FI b LT' AH' at_ ∧ w1.heap[w.heap.size]? = some (.cells #[.int .u8 0, .int .i64 0, .int .i64 0] 64 (0, 0)) ∧ Fr (Fin3 F gl ga) w w1)
      (LgI F gb ob cb gl ga at_ room tries w.heap.size b w) ?_ (cell_of_heap h.box 0) l1 hsm (by omega) (by omega) (by omega) hat (by omega) ht2).mono ?_
    · refine ⟨?_, ?_, ?_, ?_, ?_, ?_, ?_, ?_, ?_, ?_⟩
      · refine (chain_any F gb ob cb gl ga tries nx at_ b LT AH _ (h.alloc _) hI hnx (by omega)).mono ?_
        rintro e w1 ⟨rfl, LT', AH', h1, I1, f1⟩
        refine ⟨rfl, LT', AH', h1, I1, ?_, (f0.mono fun _ _ e => e.elim).trans f1⟩
        rw [f1.block _ (by simp) (by rintro (e | e | e) <;> omega)]
        exact heap_alloc_new _ _
      · rintro w1 ⟨LT', AH', h1, I1, r1, f1⟩
        refine (single_any F gb ob cb gl ga tries at_ at_ b LT' AH' w1 h1 hat).mono ?_
        rintro e w2 ⟨rfl, f2⟩
        exact ⟨rfl, LT', AH', h1.fr f2 (fun e => e) (fun e => e) (fun e => e) (fun e => e), I1, (f2.block _ (lt_of_heap r1) (fun e => e)).trans r1, f1.trans (f2.mono fun _ _ e => e.elim)⟩
      · rintro w2 ⟨LT', AH', h2, _⟩
        exact cell_of_heap h2.box 1
      · rintro w2 ⟨LT', AH', h2, _⟩
        exact cell_of_heap h2.box 2
      · rintro w2 ⟨LT', AH', h2, I2, r2, f2⟩
        have hc := cell_ints h2.lat (mix b at_) (by rw [h2.ltl]; exact hm)
        rw [getD_def LT' _ 0 (-1) (by rw [h2.ltl]; exact hm)] at hc
        refine ⟨_, hc, fun k => ?_⟩
        obtain ⟨s1, s2, s3, s4⟩ := h2.lts (by omega)
        have sR := lt_of_heap r2
        have hb := I2.lt (mix b at_)
        refine ⟨⟨LT', AH', (h2.alloc _).fr (fr_drewN _ _) (fun e => e) (fun e => e) (fun e => e) (fun e => e), I2⟩, heap_alloc_new _ _, (heap_alloc_old sR _).trans r2, Or.inl ⟨rfl, rfl⟩, hb.1, hb.2, ht2, by omega, by omega, by omega, by omega, by omega, fun hE h1 => Or.inr ⟨?_, rfl, by omega⟩, f2.trans (((Fr.refl _ w2).alloc _).trans ((fr_drewN _ k).mono fun _ _ e => e.elim)), f2.size⟩
        have hl := I2.last (by omega)
        have hmx : mix b (at_ - 1) = mix b at_ := by
          unfold mix
          rw [hE (at_ - 1) at_ (by omega) (by omega), hE (at_ - 1 + 1) (at_ + 1) (by omega) (by omega), hE (at_ - 1 + 2) (at_ + 2) (by omega) (by omega)]
        rw [hmx] at hl
        rw [hl]; omega
      · rintro w2 ⟨LT', AH', h2, _⟩
        exact lt_of_heap h2.box
      · rintro w2 ⟨LT', AH', h2, _⟩
        exact lt_of_heap h2.lat
      · rintro w2 k ⟨LT', AH', h2, I2, r2, f2⟩
        refine (mixed_any F gb ob cb gl ga tries at_ at_ b LT' AH' _ ((h2.alloc _).fr (fr_drewN _ k) (fun e => e) (fun e => e) (fun e => e) (fun e => e)) (by omega)).mono ?_
        rintro e w' ⟨rfl, nq, rfl⟩
        exact ⟨rfl, _, World.drewN_drewN ..⟩
      · rintro wr B p tr len dist ⟨⟨LT', AH', h2, I2⟩, q1, q2, q3, q4, q5, q6, q7, q8, q9, q10, q11, q12, q13, q14⟩
        refine ⟨cell_of_heap q1 0, cell_of_heap q1 1, cell_of_heap q1 2, free_of_heap q1, cell_of_heap h2.box 3, q7, q9, q11, ?_, q6, ?_, q2, q5, q4⟩
        · rcases q3 with q3 | ⟨_, q3, _⟩ <;> omega
        · rcases q3 with q3 | ⟨_, _, _, q3, _⟩ <;> omega
      · rintro wr B p tr len dist ⟨⟨LT', AH', h2, I2⟩, q1, q2, q3, q4, q5, q6, q7, q8, q9, q10, q11, q12, q13, q14⟩ htr hlen
        have hpa : p < at_ := by omega
        refine ⟨hpa, (alike_any F gb ob cb gl ga tries at_ p at_ room b LT' AH' wr h2 hpa (by omega)).mono ?_⟩
        rintro e w1 ⟨k, rfl, hk, hall, hdiff, nq, rfl⟩
        have hah := I2.ah p hpa
        have hca := cell_ints h2.ahe p (by rw [h2.ahl]; omega)
        have f1 := fr_drewN wr nq
        have h3 : FnAt (wr.drewN nq) F gb ob cb gl ga b tries LT' AH' at_ := h2.fr f1 (fun e => e) (fun e => e) (fun e => e) (fun e => e)
        have fd : Fr (Fin3 F gl ga) w (wr.drewN nq) := q13.trans (f1.mono fun _ _ e => e.elim)
        have hkE : EqB b → k = room := fun hE => by
          rcases Nat.lt_or_ge k room with c | c
          · exact absurd (hE (p + k) (at_ + k) (by omega) (by omega)) (hdiff c)
          · omega
        refine ⟨k, AH'.getD p 0, rfl, hca, fun hy => ?_, fun hno => ?_, by omega, ⟨⟨LT', AH', h3, I2⟩, q1, q2, q3, q4, q5, q6, q7, q8, q9, q10, q11, q12, fd, q14⟩⟩
        · have hk3 : 3 ≤ k := by omega
          have hs1 := heap_set (heap_set q1 1 (.int .i64 (k : Int))) 2 (.int .i64 ((at_ - p : Nat) : Int))
          refine ⟨⟨LT', AH', (h3.set B 1 _ q7 q8 q9 q10).set B 2 _ q7 q8 q9 q10, I2⟩, hs1, (heap_set_other (fun e => q11 e.symm) _ _).trans ((heap_set_other (fun e => q11 e.symm) _ _).trans q2), tkI_new b at_ room p k hpa hk hk3 hall, hah.1, by omega, by omega, q7, q8, q9, q10, q11, fun hE h1 => ?_, (fd.setNew (p := ⟨B, 1, none⟩) q14 _).setNew (p := ⟨B, 2, none⟩) q14 _, q14⟩
          rcases q12 hE h1 with ⟨c, _⟩ | ⟨c, _, _⟩
          · omega
          · exact Or.inl ⟨hkE hE, by omega⟩
        · refine ⟨⟨LT', AH', h3, I2⟩, q1, q2, q3, hah.1, by omega, by omega, q7, q8, q9, q10, q11, fun hE h1 => ?_, fd, q14⟩
          rcases q12 hE h1 with ⟨c, _⟩ | ⟨c, c2, _⟩
          · omega
          · have := hkE hE
            exact absurd ⟨by omega, by omega⟩ hno
    · rintro e w' ⟨wr, B, p, tr, len, dist, ⟨⟨LT', AH', h2, I2⟩, q1, q2, q3, q4, q5, q6, q7, q8, q9, q10, q11, q12, q13, q14⟩, hend, rfl, rfl⟩
      have sR := lt_of_heap q2
      have hRF : w.heap.size ≠ F := by omega
      have hRl : w.heap.size ≠ gl := by omega
      have hRa : w.heap.size ≠ ga := by omega
      have hRb : w.heap.size ≠ gb := by omega
      refine ⟨len, dist, LT', AH', at_, rfl, q3, ((h2.set _ 0 _ hRF hRl hRa hRb).set _ 1 _ hRF hRl hRa hRb).set _ 2 _ hRF hRl hRa hRb, I2, Nat.le_refl _, ((q13.setNew (p := ⟨w.heap.size, 0, none⟩) (Nat.le_refl _) _).setNew (p := ⟨w.heap.size, 1, none⟩) (Nat.le_refl _) _).setNew (p := ⟨w.heap.size, 2, none⟩) (Nat.le_refl _) _, fun hE h1 _ => ?_⟩
      rcases q12 hE h1 with c | ⟨c1, c2, c3⟩
      · exact c
      · exact absurd ⟨c3, by omega, by omega⟩ hend

end Go.Proofs.YtdpobjgfnhjagaaDoor

