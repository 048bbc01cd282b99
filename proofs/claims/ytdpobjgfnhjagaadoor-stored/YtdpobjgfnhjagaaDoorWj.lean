import Derived.Test.YtdpobjgfnhjagaaDoorWi
namespace Go.Proofs.YtdpobjgfnhjagaaDoor
open Go.RowKit

/-- A reader's place: how many bytes it has taken, what it holds of the last one, how many bits of that are left. -/
structure Spot where
  p : Nat
  held : Int
  left : Nat

/-- The next bit, and the place behind it. -/
def bitOf (I : List UInt8) (s : Spot) : Option (Int × Spot) :=
  match s.left with
  | 0 => if s.p < I.length then some (((I.getD s.p 0).toNat : Int) % 2, ⟨s.p + 1, ((I.getD s.p 0).toNat : Int) / 2, 7⟩) else none
  | k + 1 => if 0 ≤ s.held ∧ s.held < 256 ∧ k < 8 then some (s.held % 2, ⟨s.p, s.held / 2, k⟩) else none

theorem bitOf_01 {I : List UInt8} {s s' : Spot} {v : Int} (h : bitOf I s = some (v, s')) : v = 0 ∨ v = 1 := by
  unfold bitOf at h
  split at h
  · split at h
    · simp at h; omega
    · cases h
  · split at h
    · simp at h; omega
    · cases h

theorem bit_step (B b o c : Nat) (I : List UInt8) (s s' : Spot) (v lim : Int) (ov fx : Value) (w : World)
    (h : w.heap[B]? = some (RB (.slice (some ⟨b, o, none⟩) I.length c) s.p s.held s.left ov lim fx)) (hl : I.length ≤ maxLen) (hb : b ≠ B) (hI : Lies w b o I) (hs : bitOf I s = some (v, s')) :
    Calls Tryd.prog 22 #[.pointer (some ⟨B, 0, none⟩)] w fun r w' => r = .returned (.int .i64 v) ∧
      w'.heap[B]? = some (RB (.slice (some ⟨b, o, none⟩) I.length c) s'.p s'.held s'.left ov lim fx) ∧ Fr (One B) w w' := by
  obtain ⟨p, held, left⟩ := s
  cases left with
  | zero =>
    simp only [bitOf] at hs
    split at hs
    · rename_i hp
      simp only [Option.some.injEq, Prod.mk.injEq] at hs
      obtain ⟨rfl, rfl⟩ := hs
      exact bit_fresh B b o I.length c p held lim _ ov fx w h hp hl hb (hI p hp) (u8_lt _).1 (u8_lt _).2
    · cases hs
  | succ k =>
    simp only [bitOf] at hs
    split at hs
    · rename_i hp
      simp only [Option.some.injEq, Prod.mk.injEq] at hs
      obtain ⟨rfl, rfl⟩ := hs
      exact bit_more B k p held lim _ ov fx w h hp.1 hp.2.1 hp.2.2
    · cases hs

/-- Reading a symbol: its place among the sorted ones. -/
def rdS (I : List UInt8) (cs : List Int) (lg : Int) (t : Nat) : Nat → Nat → Int → Int → Int → Spot → Option (Nat × Spot)
  | 0, _, _, _, _, _ => none
  | fuel + 1, n, word, first, ahead, s =>
    match bitOf I s with
    | none => none
    | some (v, s') =>
      if n < 16 ∧ 0 ≤ word ∧ word ≤ 65536 ∧ 0 ≤ first ∧ first ≤ 65536 ∧ 0 ≤ ahead ∧ ahead ≤ 1000 ∧ 0 ≤ cs.getD n 0 ∧ cs.getD n 0 ≤ 1000 then
        if 2 * word + v < first + cs.getD n 0 then
          if 0 ≤ ahead + (2 * word + v) - first ∧ ahead + (2 * word + v) - first < t then some ((ahead + (2 * word + v) - first).toNat, s') else none
        else if lg ≤ n then none
        else rdS I cs lg t fuel (n + 1) (2 * word + v) (2 * (first + cs.getD n 0)) (ahead + cs.getD n 0) s'
      else none

set_option maxHeartbeats 2000000 in
theorem read_any (B b o c cl g t : Nat) (I : List UInt8) (cs S : List Int) (lg lim : Int) (fuel i : Nat) (s s' : Spot) (ov fx : Value) (w : World)
    (h : w.heap[B]? = some (RB (.slice (some ⟨b, o, none⟩) I.length c) s.p s.held s.left ov lim fx)) (hl : I.length ≤ maxLen) (hb : b ≠ B) (hI : Lies w b o I)
    (hc : w.heap[cl]? = some (CB cs (.slice (some ⟨g, 0, none⟩) t t) lg)) (h16 : cs.length = 16) (hS : w.heap[g]? = some (.cells (ints S) 3 (0, 0))) (ht : S.length = t) (ht2 : t ≤ 288) (hcB : cl ≠ B) (hgB : g ≠ B)
    (hr : rdS I cs lg t fuel 1 0 0 0 s = some (i, s')) :
    Calls Tryd.prog 83 #[.pointer (some ⟨cl, 0, none⟩), .func (Fn.func 22) #[.pointer (some ⟨B, 0, none⟩)] #[]] w fun r w' => r = .returned (.tuple #[.int .i64 (S.getD i 0), .bool true]) ∧
      w'.heap[B]? = some (RB (.slice (some ⟨b, o, none⟩) I.length c) s'.p s'.held s'.left ov lim fx) ∧ Fr (One B) w w' := by
  have H : Hid _ := h; clear h
  have HC : Hid (w.heap[cl]? = some (CB cs (.slice (some ⟨g, 0, none⟩) t t) lg)) := hc; clear hc
  have HS : Hid (w.heap[g]? = some (.cells (ints S) 3 (0, 0))) := hS; clear hS
  have HT : Hid (S.length = t) := ht; clear ht
  have H16 : Hid (cs.length = 16) := h16; clear h16
  have HR : Hid (rdS I cs lg t fuel 1 0 0 0 s = some (i, s')) := hr; clear hr
  go_enter Tryd.func83, Tryd.ntmps83
  go_wp2_with fail
  go_loopw [6, 7, 8, 9] (fun wd fi ah nn wr => ∃ (fu n : Nat) (word first ahead : Int) (q : Spot), wd = .int .i64 word ∧ fi = .int .i64 first ∧ ah = .int .i64 ahead ∧ nn = .int .i64 n ∧ n ≤ 16 ∧ Hid (rdS I cs lg t fu n word first ahead q = some (i, s')) ∧ wr.heap[B]? = some (RB (.slice (some ⟨b, o, none⟩) I.length c) q.p q.held q.left ov lim fx) ∧ Fr (One B) w wr) (fun _ _ _ nn _ => 17 - (intOf nn).toNat)
  case atStart => exact ⟨fuel, 1, 0, 0, 0, s, rfl, rfl, rfl, rfl, by omega, HR.out, H.out, Fr.refl _ _⟩
  case round =>
    obtain ⟨fu, n, word, first, ahead, q, rfl, rfl, rfl, rfl, hn, hr, hh, hfr⟩ := hrel
    have hr1 := hr.out
    cases fu with
    | zero => simp [rdS] at hr1
    | succ fu =>
      simp only [rdS] at hr1
      cases hbit : bitOf I q with
      | none => simp [hbit] at hr1
      | some vs =>
        obtain ⟨v, q'⟩ := vs
        simp only [hbit] at hr1
        have hv := bitOf_01 hbit
        have HBIT : Hid (bitOf I q = some (v, q')) := hbit; clear hbit
        split at hr1
        · rename_i hbd
          obtain ⟨n16, w0, w1, f0, f1, a0, a1, cn0, cn1⟩ := hbd
          have hIr : Lies wr b o I := hI.keep hfr hb
          have HH : Hid _ := hh; clear hh
          obtain ⟨cv, hcv⟩ : ∃ cv, Hid (cs.getD n 0 = cv) := ⟨_, rfl⟩
          rw [hcv.out] at hr1 cn0 cn1
          have HR1 : Hid _ := hr1; clear hr1
          go_wp2_with fail
          refine (bit_step B b o c I q q' v lim ov fx wr HH.out hl hb hIr HBIT.out).mono ?_
          rintro e w1 ⟨rfl, k1, f1'⟩
          have hf2 := hfr.trans f1'
          have hc1 : w1.heap[cl]? = some (CB cs (.slice (some ⟨g, 0, none⟩) t t) lg) := (hf2.block cl (lt_of_heap HC.out) hcB).trans HC.out
          have hS1 : w1.heap[g]? = some (.cells (ints S) 3 (0, 0)) := (hf2.block g (lt_of_heap HS.out) hgB).trans HS.out
          obtain ⟨e1, e2, e3, e4⟩ := code_cell hc1 H16.out
          have hcn := e1 n n16
          rw [hcv.out] at hcn
          have K1 : Hid _ := k1; clear k1 e1 hc1
          have hr2 := HR1.out
          split at hr2
          · rename_i hlt
            split at hr2
            · rename_i hidx
              simp only [Option.some.injEq, Prod.mk.injEq] at hr2
              obtain ⟨hi, hs'⟩ := hr2
              obtain ⟨ix, hix⟩ := Int.eq_ofNat_of_zero_le hidx.1
              have hit : ix < t := by omega
              have hsc := cell_ints hS1 ix (by rw [HT.out]; exact hit)
              have HS1 : Hid _ := hS1; clear hS1
              have HIX : Hid (ahead + (2 * word + v) - first = (ix : Int)) := hix
              go_wp2_with fail
              go_ret2
              have hii : i = ix := by have := HIX.out; omega
              subst hii
              subst hs'
              exact ⟨rfl, K1.out, hf2⟩
            · cases hr2
          · rename_i hlt
            split at hr2
            · cases hr2
            · rename_i hlg
              have HR2 : Hid _ := hr2; clear hr2
              clear hS1
              go_wp2_with fail
              go_roundw
              case rel => exact ⟨fu, n + 1, 2 * word + v, 2 * (first + cv), ahead + cv, q', rfl, rfl, rfl, by go_num, by omega, HR2.out, K1.out, hf2⟩
              case measure => simp [intOf]; omega
        · cases hr1

set_option maxHeartbeats 1000000 in
theorem symbol_any (B b o c cl g t : Nat) (I : List UInt8) (cs S : List Int) (lg lim : Int) (fuel i : Nat) (s s' : Spot) (ov fx : Value) (w : World)
    (h : w.heap[B]? = some (RB (.slice (some ⟨b, o, none⟩) I.length c) s.p s.held s.left ov lim fx)) (hl : I.length ≤ maxLen) (hb : b ≠ B) (hI : Lies w b o I)
    (hc : w.heap[cl]? = some (CB cs (.slice (some ⟨g, 0, none⟩) t t) lg)) (h16 : cs.length = 16) (hS : w.heap[g]? = some (.cells (ints S) 3 (0, 0))) (ht : S.length = t) (ht2 : t ≤ 288) (hcB : cl ≠ B) (hgB : g ≠ B)
    (hr : rdS I cs lg t fuel 1 0 0 0 s = some (i, s')) :
    Calls Tryd.prog 72 #[.pointer (some ⟨B, 0, none⟩), .pointer (some ⟨cl, 0, none⟩)] w fun r w' => r = .returned (.int .i64 (S.getD i 0)) ∧
      w'.heap[B]? = some (RB (.slice (some ⟨b, o, none⟩) I.length c) s'.p s'.held s'.left ov lim fx) ∧ Fr (One B) w w' := by
  have hmf : ∀ (fn : Fn) (first cap : Array Value) (w : World), (Instr.makeFunc fn first cap).run Tryd.prog w = .ok (.func fn first cap) w := fun _ _ _ _ => rfl
  have HR := read_any B b o c cl g t I cs S lg lim fuel i s s' ov fx w h hl hb hI hc h16 hS ht ht2 hcB hgB hr
  generalize S.getD i 0 = sym at HR ⊢
  have HH : Hid _ := HR; clear HR h hc h16 hS ht hr
  go_enter Tryd.func72, Tryd.ntmps72
  go_wp2_with fail
  refine Calls.mono HH.out ?_
  rintro e w1 ⟨rfl, k1, f1⟩
  have K1 : Hid _ := k1; clear k1
  go_wp2_with fail
  go_ret
  exact ⟨rfl, K1.out, f1⟩

end Go.Proofs.YtdpobjgfnhjagaaDoor
