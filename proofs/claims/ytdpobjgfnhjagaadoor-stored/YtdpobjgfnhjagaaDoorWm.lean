import Derived.Test.YtdpobjgfnhjagaaDoorWl
namespace Go.Proofs.YtdpobjgfnhjagaaDoor
open Go.RowKit

/-- The blocks that Stored makes of its strings. -/
def blksOf (xs : List ByteArray) : List (List UInt8) := (xs.take 20).map fun x => x.data.toList.take 2000

set_option maxRecDepth 100000 in
set_option maxHeartbeats 1000000 in
theorem stored_nothing (ao : Option Addr) (cap : Nat) (limit cut : Int) (w : World) :
    Calls Tryd.prog 3 #[.slice ao 0 cap, .int .i64 limit, .int .i64 cut] w fun e w' => e = .returned (.bool true) ∧ Below w.heap.size w w' := by
  go_enter Tryd.func3, Tryd.ntmps3
  go_wp2_with fail
  refine (inflates_true _).mono ?_
  rintro e w1 ⟨rfl, b1⟩
  go_wp2_with fail
  go_loopw [11] (fun i wr => i = .int .i64 0 ∧ wr = w1) (fun _ _ => 0)
  case atStart => exact ⟨rfl, rfl⟩
  case round =>
    obtain ⟨rfl, rfl⟩ := hrel
    go_wp2_with fail
    go_ret
    exact ⟨rfl, b1⟩

theorem blks_length (xs : List ByteArray) : (blksOf xs).length = min xs.length 20 := by simp [blksOf]; omega
theorem blks_get (xs : List ByteArray) (k : Nat) (h : k < (blksOf xs).length) (hk : k < xs.length) : (blksOf xs)[k] = xs[k].data.toList.take 2000 := by
  simp [blksOf]

theorem next_S {xs : List ByteArray} {S W : List UInt8} {k N : Nat} (hN : (blksOf xs).length = N) (hk : k < N) {Y : ByteArray} (hY : Y.data.toList = (blksOf xs)[k])
    (hse : S ++ enc ((blksOf xs).drop k) = enc (blksOf xs)) (hwe : W ++ ((blksOf xs).drop k).flatten = (blksOf xs).flatten) :
    (S ++ (headOf (decide (k + 1 = N)) Y.size ++ Y.data.toList)) ++ enc ((blksOf xs).drop (k + 1)) = enc (blksOf xs) ∧ (W ++ Y.data.toList) ++ ((blksOf xs).drop (k + 1)).flatten = (blksOf xs).flatten := by
  have hd : (blksOf xs).drop k = (blksOf xs)[k] :: (blksOf xs).drop (k + 1) := List.drop_eq_getElem_cons (by omega)
  have hl : Y.size = (blksOf xs)[k].length := by rw [← hY, Array.length_toList]; rfl
  have hf : ((blksOf xs).drop (k + 1)).isEmpty = decide (k + 1 = N) := by
    rw [Bool.eq_iff_iff]
    simp
    omega
  rw [hd] at hse hwe
  constructor
  · rw [← hse]
    simp only [enc, hf]
    rw [hY, hl]
    simp only [List.append_assoc]
  · rw [← hwe, hY]
    simp only [List.flatten_cons, List.append_assoc]

theorem ofNat_nat (n : Nat) : UInt8.ofNat ((n : Int).toNat) = UInt8.ofNat n := by simp

theorem join_S (S : List UInt8) (flag : Bool) (Y : ByteArray) (hY : Y.size ≤ 2000) :
    (⟨S.toArray⟩ ++ strOfNums [if flag then 1 else 0, (Y.size : Int) % 256, (Y.size : Int) / 256, 255 - (Y.size : Int) % 256, 255 - (Y.size : Int) / 256] ++ Y : ByteArray) = ⟨(S ++ (headOf flag Y.size ++ Y.data.toList)).toArray⟩ := by
  have e1 : ((Y.size : Int) % 256).toNat = Y.size % 256 := by omega
  have e2 : ((Y.size : Int) / 256).toNat = Y.size / 256 := by omega
  have e3 : (255 - (Y.size : Int) % 256).toNat = 255 - Y.size % 256 := by omega
  have e4 : (255 - (Y.size : Int) / 256).toNat = 255 - Y.size / 256 := by omega
  apply ByteArray.ext
  simp only [ByteArray.data_append, strOfNums, headOf, List.map_cons, List.map_nil, e1, e2, e3, e4]
  cases flag <;> simp

theorem join_W (W : List UInt8) (Y : ByteArray) : (⟨W.toArray⟩ ++ Y : ByteArray) = ⟨(W ++ Y.data.toList).toArray⟩ := by
  apply ByteArray.ext
  simp [ByteArray.data_append]

/-- Five bytes made into a text. -/
theorem conv5 (a b c d e : Int) (w : World) :
    (convert 25 9 (.slice (some ⟨w.heap.size, 0, none⟩) 5 5)).run Tryd.prog (w.alloc (.cells #[.int .u8 a, .int .u8 b, .int .u8 c, .int .u8 d, .int .u8 e] 5)) =
      .ok (.string (strOfNums [a, b, c, d, e])) (w.alloc (.cells #[.int .u8 a, .int .u8 b, .int .u8 c, .int .u8 d, .int .u8 e] 5)) := by
  refine run_convert_bytes_arg _ 25 5 Tryd.underlying25 Tryd.underlying5 w.heap.size 0 5 5 [a, b, c, d, e] rfl ?_ 9 Tryd.underlying9
  intro i hi
  rw [cell_of_heap (heap_alloc_new w _)]
  match i, hi with
  | 0, _ => rfl
  | 1, _ => rfl
  | 2, _ => rfl
  | 3, _ => rfl
  | 4, _ => rfl

/-- spool.Inflate of stored blocks. -/
theorem inflate_told (b o n c : Nat) (lim : Int) (I : List UInt8) (blks : List (List UInt8)) (w : World) (hn : I.length = n)
    (hl : I.length ≤ maxLen) (hb : b < w.heap.size) (hI : Lies w b o I)
    (hne : blks ≠ []) (hr : Reads I 0 blks) (hx : ∀ x ∈ blks, x.length ≤ 2000) (hl0 : 0 ≤ lim) (hlim : lim ≤ 60000) :
    Calls Tryd.prog 8 #[.slice (some ⟨b, o, none⟩) n c, .int .i64 lim] w (Told w lim I blks) := by
  subst hn
  refine inflate_of _ lim w _ (stream_any b o c lim I blks w hl hb hI hne hr hx hl0 hlim) ?_
  intro e w' h
  rcases h with ⟨_, _, ov, h, _⟩ | ⟨_, h, _⟩ | ⟨_, h, _⟩
  · exact ⟨_, _, _, h⟩
  · exact ⟨_, _, _, h⟩
  · exact ⟨_, _, _, h⟩

theorem lies_row (w : World) (s : ByteArray) (cap : Nat) (fr : Nat × Nat) : Lies (w.alloc (.cells (bytesRow s cap) 5 fr)).drew w.heap.size 0 s.data.toList := by
  intro i hi
  have hh : (w.alloc (.cells (bytesRow s cap) 5 fr)).drew.heap[w.heap.size]? = some (.cells (bytesRow s cap) 5 fr) := heap_alloc_new w _
  rw [cell_of_heap hh, Nat.zero_add]
  have hi' : i < s.data.size := by simpa using hi
  simp only [bytesRow]
  rw [Array.getElem?_append_left (by simpa using hi'), Array.getElem?_map]
  simp only [List.getD, Array.getElem?_toList]
  rw [Array.getElem?_eq_getElem hi']
  rfl

theorem reads_app (blks : List (List UInt8)) (behind : List UInt8) : Reads (enc blks ++ behind) 0 blks := by
  intro i hi _
  rw [Nat.zero_add]
  exact getD_app_left _ _ _ hi

theorem reads_take (blks : List (List UInt8)) (n : Nat) : Reads ((enc blks).take n) 0 blks := by
  intro i hi h
  rw [Nat.zero_add] at h ⊢
  simp only [List.length_take] at h
  simp only [List.getD, List.getElem?_take]
  rw [if_pos (by omega)]

theorem blks_short (xs : List ByteArray) : ∀ x ∈ blksOf xs, x.length ≤ 2000 := by
  intro x hx
  simp only [blksOf, List.mem_map] at hx
  obtain ⟨y, _, rfl⟩ := hx
  exact List.length_take_le _ _

/-- A nil list is nil. -/
theorem eql_nil (w : World) : (binOp .eql 25 (.slice none 0 0) (.slice none 0 0)).run Tryd.prog w = .ok (.bool true) w := by
  have := Lib.run_eql_slice_nil (P := Tryd.prog) w 25 5 none 0 0 0 0 Tryd.underlying25
  simpa using this

theorem take_of_extract (X : ByteArray) : (X.extract 0 2000).data.toList = X.data.toList.take 2000 := by
  rw [ByteArray.data_extract, Array.toList_extract]
  simp only [List.extract_eq_take_drop, List.drop_zero, Nat.sub_zero]

set_option maxRecDepth 100000 in
set_option maxHeartbeats 2000000 in
theorem stored_some (b o len cap : Nat) (limit cut : Int) (xs : List ByteArray) (w : World) (hlen : xs.length = len) (hpos : 0 < len) (hmax : len ≤ maxLen) (hb : b < w.heap.size) (hlim : -9223372036854775808 ≤ limit ∧ limit ≤ 9223372036854775807) (hcut : -9223372036854775808 ≤ cut ∧ cut ≤ 9223372036854775807)
    (hc : ∀ i (hi : i < xs.length), w.cell? ⟨b, o + i, none⟩ = some (.string xs[i])) (hx : ∀ x ∈ xs, x.size ≤ maxLen) :
    Calls Tryd.prog 3 #[.slice (some ⟨b, o, none⟩) len cap, .int .i64 limit, .int .i64 cut] w fun e w' => e = .returned (.bool true) ∧ Below w.heap.size w w' := by
  unfold maxLen at hmax
  have HLEN : Hid (xs.length = len) := hlen; clear hlen
  obtain ⟨N, hN⟩ : ∃ N : Nat, N = min len 20 := ⟨_, rfl⟩
  have hN1 : N ≤ len := by omega
  have hN2 : N ≤ 20 := by omega
  have hN3 : 0 < N := by omega
  have hmin : (if (20 : Int) < (len : Int) then (20 : Int) else (len : Int)) = (N : Int) := by split <;> omega
  have HNN : Hid (N = min len 20) := hN; clear hN
  go_enter Tryd.func3, Tryd.ntmps3
  go_wp2_with fail
  refine (inflates_true _).mono ?_
  rintro e w1 ⟨rfl, b1⟩
  go_wp2_with fail
  go_loopw [8, 9, 11] (fun sv wv i wr => ∃ (k : Nat) (S W : List UInt8), k ≤ N ∧ i = .int .i64 k ∧ sv = .string ⟨S.toArray⟩ ∧ wv = .string ⟨W.toArray⟩ ∧ S.length ≤ k * 2005 ∧ W.length ≤ k * 2000 ∧ Hid (S ++ enc ((blksOf xs).drop k) = enc (blksOf xs)) ∧ Hid (W ++ ((blksOf xs).drop k).flatten = (blksOf xs).flatten) ∧ Below w.heap.size w wr) (fun _ _ i _ => N - (intOf i).toNat)
  case atStart => exact ⟨0, [], [], by omega, rfl, rfl, rfl, by simp, by simp, rfl, rfl, b1⟩
  case round =>
    obtain ⟨k, S, W, hk, rfl, rfl, rfl, hS, hW, hse, hwe, hbw⟩ := hrel
    by_cases hlt : k < N
    · have hkx : k < xs.length := by rw [HLEN.out]; omega
      have hcell := (hbw.cell (p := ⟨b, o + k, none⟩) hb).trans (hc k hkx)
      have hX := hx xs[k] (List.getElem_mem hkx)
      unfold maxLen at hX
      generalize hXX : xs[k] = X at hcell hX
      have HXX : Hid _ := hXX; clear hXX
      have hcv := conv5
      have hss := strOfNums_size
      have hS2 : S.length ≤ 40100 := by omega
      have hW2 : W.length ≤ 40000 := by omega
      have hNb : (blksOf xs).length = N := by rw [blks_length, HLEN.out, HNN.out]
      have hkb : k < (blksOf xs).length := by rw [hNb]; exact hlt
      have HNb : Hid ((blksOf xs).length = N) := hNb; clear hNb
      obtain ⟨Y, HY, hYn, hcase⟩ : ∃ Y : ByteArray, Hid (Y.data.toList = (blksOf xs)[k]) ∧ Y.size ≤ 2000 ∧ ((2000 < X.size ∧ X.extract 0 2000 = Y) ∨ (X.size ≤ 2000 ∧ X = Y)) := by
        have hg := blks_get xs k hkb hkx
        rw [HXX.out] at hg
        by_cases hbig : 2000 < X.size
        · exact ⟨X.extract 0 2000, by rw [hg]; exact take_of_extract X, by rw [ByteArray.size_extract]; omega, Or.inl ⟨hbig, rfl⟩⟩
        · refine ⟨X, ?_, by omega, Or.inr ⟨by omega, rfl⟩⟩
          rw [hg, List.take_of_length_le (by rw [Array.length_toList]; exact Nat.not_lt.1 hbig)]
          exact rfl
      obtain ⟨g1, g2⟩ := next_S HNb.out hlt HY.out hse.out hwe.out
      have G1 : Hid _ := g1; clear g1
      have G2 : Hid _ := g2; clear g2
      rcases hcase with ⟨hbig, hY⟩ | ⟨hbig, rfl⟩
      · clear HXX
        by_cases hlast : k + 1 = N
        · have hfl : ((k : Int) == (N : Int) - 1) = true := by simp; omega
          go_wp2_with fail
          go_roundw
          case rel =>
            refine ⟨k + 1, _, _, by omega, by go_num, congrArg Value.string (join_S S true Y hYn), congrArg Value.string (join_W W Y), ?_, ?_, ?_, G2.out, hbw.alloc (hbw.size) _⟩
            · simp [head_length]; omega
            · simp; omega
            · have := G1.out
              rw [decide_eq_true hlast] at this
              exact this
          case measure => simp [intOf]; omega
        · have hfl : ((k : Int) == (N : Int) - 1) = false := by simp; omega
          go_wp2_with fail
          go_roundw
          case rel =>
            refine ⟨k + 1, _, _, by omega, by go_num, congrArg Value.string (join_S S false Y hYn), congrArg Value.string (join_W W Y), ?_, ?_, ?_, G2.out, hbw.alloc (hbw.size) _⟩
            · simp [head_length]; omega
            · simp; omega
            · have := G1.out
              rw [decide_eq_false hlast] at this
              exact this
          case measure => simp [intOf]; omega
      · clear HXX
        by_cases hlast : k + 1 = N
        · have hfl : ((k : Int) == (N : Int) - 1) = true := by simp; omega
          go_wp2_with fail
          go_roundw
          case rel =>
            refine ⟨k + 1, _, _, by omega, by go_num, congrArg Value.string (join_S S true X hYn), congrArg Value.string (join_W W X), ?_, ?_, ?_, G2.out, hbw.alloc (hbw.size) _⟩
            · simp [head_length]; omega
            · simp; omega
            · have := G1.out
              rw [decide_eq_true hlast] at this
              exact this
          case measure => simp [intOf]; omega
        · have hfl : ((k : Int) == (N : Int) - 1) = false := by simp; omega
          go_wp2_with fail
          go_roundw
          case rel =>
            refine ⟨k + 1, _, _, by omega, by go_num, congrArg Value.string (join_S S false X hYn), congrArg Value.string (join_W W X), ?_, ?_, ?_, G2.out, hbw.alloc (hbw.size) _⟩
            · simp [head_length]; omega
            · simp; omega
            · have := G1.out
              rw [decide_eq_false hlast] at this
              exact this
          case measure => simp [intOf]; omega
    · have hkN : k = N := by omega
      have hd : (blksOf xs).drop k = [] := List.drop_of_length_le (by rw [blks_length, HLEN.out, ← HNN.out]; omega)
      have hS1 := hse.out
      have hW1 := hwe.out
      rw [hd] at hS1 hW1
      simp only [enc, List.flatten_nil, List.append_nil] at hS1 hW1
      subst hkN
      have HS1 : Hid _ := hS1; clear hS1
      have HW1 : Hid _ := hW1; clear hW1
      clear hd
      have hcs := fun (s : ByteArray) (w : World) => run_bytes_of_string w 9 25 5 s Tryd.underlying9 Tryd.underlying25 Tryd.underlying5
      have hS2 : S.length ≤ 40100 := by omega
      have hW2 : W.length ≤ 40000 := by omega
      go_wp2_with fail
      refine (pick_any limit 60001 _ hlim (by omega) (by omega)).mono ?_
      rintro e w2 ⟨⟨lm, rfl, l0, l1⟩, rfl⟩
      go_wp2_with fail
      have hbe : ({ data := S.toArray } ++ { data := #[98, 101, 104, 105, 110, 100] } : ByteArray).data.toList = S ++ [98, 101, 104, 105, 110, 100] := by
        rw [ByteArray.data_append]; simp
      have hne : blksOf xs ≠ [] := by
        intro h
        have := blks_length xs
        rw [h, HLEN.out] at this
        simp at this
        omega
      refine Calls.mono (inflate_told w2.heap.size 0 (S.length + 6) _ lm (S ++ [98, 101, 104, 105, 110, 100]) (blksOf xs) _ (by simp) (by simp [maxLen]; omega) (by simp) (hbe ▸ lies_row w2 _ _ _) hne (by rw [HS1.out]; exact reads_app _ _) (blks_short xs) l0 (by omega)) ?_
      have hb3 : Below w.heap.size w (w2.alloc (.cells (bytesRow ({ data := S.toArray } ++ { data := #[98, 101, 104, 105, 110, 100] }) (grownCap w2 (S.length + 6) 0 5)) 5 ((bytesRow ({ data := S.toArray } ++ { data := #[98, 101, 104, 105, 110, 100] }) (grownCap w2 (S.length + 6) 0 5)).size, (bytesRow ({ data := S.toArray } ++ { data := #[98, 101, 104, 105, 110, 100] }) (grownCap w2 (S.length + 6) 0 5)).size + 1))).drew := (hbw.alloc hbw.size _).drew
      generalize (w2.alloc (.cells (bytesRow ({ data := S.toArray } ++ { data := #[98, 101, 104, 105, 110, 100] }) (grownCap w2 (S.length + 6) 0 5)) 5 ((bytesRow ({ data := S.toArray } ++ { data := #[98, 101, 104, 105, 110, 100] }) (grownCap w2 (S.length + 6) 0 5)).size, (bytesRow ({ data := S.toArray } ++ { data := #[98, 101, 104, 105, 110, 100] }) (grownCap w2 (S.length + 6) 0 5)).size + 1))).drew = w3 at hb3 ⊢
      rintro e w4 hT
      rcases hT with ⟨h1, h2, ov, rfl, hown, hbel⟩ | ⟨h1, _⟩ | ⟨h1, rfl, hbel⟩
      · rw [← HS1.out]
        rw [← HW1.out] at h2
        have hcv2 := conv_owned hown
        rw [← HW1.out] at hcv2
        have hSp : 0 < S.length := by
          rw [HS1.out]
          cases hbb : blksOf xs with
          | nil => exact absurd hbb hne
          | cons x r => rw [enc_cons_length]; omega
        go_wp2_with fail
        refine (pick_any cut S.length _ hcut (by omega) (by omega)).mono ?_
        rintro e w5 ⟨⟨ct, rfl, t0, t1⟩, rfl⟩
        obtain ⟨cn, rfl⟩ := Int.eq_ofNat_of_zero_le t0
        have hcn : cn < S.length := by omega
        have hsx : ({ data := S.toArray } : ByteArray).extract 0 cn = ⟨(S.take cn).toArray⟩ := by
          apply ByteArray.ext
          rw [ByteArray.data_extract]
          simp
        clear hcv2
        go_wp2_with fail
        have hbw5 : Below w.heap.size w w5 := hb3.trans (hbel.mono hb3.size)
        refine Calls.mono (inflate_told w5.heap.size 0 (min cn S.length) _ lm (S.take cn) (blksOf xs) _ (by simp) (by simp [maxLen]; omega) (by simp) (lies_row w5 ⟨(S.take cn).toArray⟩ _ _) hne (by rw [HS1.out]; exact reads_take _ _) (blks_short xs) l0 (by omega)) ?_
        rintro e w6 hT
        rcases hT with ⟨h4, _⟩ | ⟨h4, rfl, hbel6⟩ | ⟨h4, _⟩
        · rw [← HS1.out] at h4
          simp at h4
          omega
        · have hnil := eql_nil
          have hb6 : Below w.heap.size w w6 := ((hbw5.alloc hbw5.size _).drew).trans (hbel6.mono (by have := hbw5.size; simp; omega))
          clear hbel6
          go_wp2_with fail
          go_ret
          exact ⟨rfl, hb6⟩
        · rw [← HW1.out] at h4
          omega
      · rw [← HS1.out] at h1
        simp at h1
        omega
      · rw [← HW1.out] at h1
        have hnil := eql_nil
        go_wp2_with fail
        go_ret
        exact ⟨rfl, hb3.trans (hbel.mono hb3.size)⟩

end Go.Proofs.YtdpobjgfnhjagaaDoor
