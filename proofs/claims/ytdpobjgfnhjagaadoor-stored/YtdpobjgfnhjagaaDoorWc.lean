import Derived.Test.YtdpobjgfnhjagaaDoorWb
namespace Go.Proofs.YtdpobjgfnhjagaaDoor
open Go.RowKit

/-- What reading a stored block's length and bytes comes to. -/
def Came (B b o c : Nat) (I : List UInt8) (_ov fx : Value) (lim : Int) (xs : List Value) (q m : Nat) (out : List UInt8) (w : World) (e : Ending) (w' : World) : Prop :=
  ((e = .returned (.tuple #[]) ∧ q ≤ I.length ∧ (m : Int) ≤ lim ∧ ∃ held ov', w'.heap[B]? = some (RB (.slice (some ⟨b, o, none⟩) I.length c) q held 0 ov' lim fx) ∧ 0 ≤ held ∧ held < 256 ∧ w'.ownsRow (B + 1) 5 1 ov' m (xs ++ bv8 out)) ∨
   (e = stop 2 ∧ I.length < q) ∨ (e = stop 4 ∧ lim < (m : Int))) ∧ Fr (fun k => B ≤ k) w w'

theorem One.up {B : Nat} {w w' : World} (f : Fr (One B) w w') : Fr (fun k => B ≤ k) w w' := f.mono fun k _ h => by simp [One] at h; omega

theorem own_up {B : Nat} {w w' : World} {ov : Value} {n : Nat} {xs : List Value} (ho : w.ownsRow (B + 1) 5 1 ov n xs) (f : Fr (fun k => k = B ∨ ov.ownBlock = some k) w w') : Fr (fun k => B ≤ k) w w' :=
  f.mono fun k _ h => by
    rcases h with h | h
    · omega
    · have := (owns_block ho h).1
      omega

theorem own_one {B : Nat} {w w' : World} {ov : Value} {n : Nat} {xs : List Value} (ho : w.ownsRow (B + 1) 5 1 ov n xs) (f : Fr (One B) w w') : w'.ownsRow (B + 1) 5 1 ov n xs :=
  owns_keep ho fun g hg hs => f.block g hs (by have := (owns_block ho hg).1; simp [One]; omega)

set_option maxHeartbeats 1000000 in
theorem stored_any (B b o c p n m : Nat) (held left lim : Int) (I : List UInt8) (ov fx : Value) (xs : List Value) (w : World)
    (h : w.heap[B]? = some (RB (.slice (some ⟨b, o, none⟩) I.length c) p held left ov lim fx)) (hh0 : 0 ≤ held) (hh1 : held < 256) (hp : p ≤ I.length) (hl : I.length ≤ maxLen) (hb : b < B) (hI : Lies w b o I)
    (hd : Head I p n) (hn : n ≤ 2000) (ho : w.ownsRow (B + 1) 5 1 ov m xs) (hm : (m : Int) ≤ lim) (hlim : lim ≤ 60000) :
    Calls Tryd.prog 41 #[.pointer (some ⟨B, 0, none⟩)] w (Came B b o c I ov fx lim xs (p + 4 + n) (m + n) ((I.drop (p + 4)).take n) w) := by
  have hbB : b ≠ B := by omega
  have H : Hid _ := h; clear h
  have HO : Hid _ := ho; clear ho
  go_enter Tryd.func41, Tryd.ntmps41
  go_wp2_with fail
  refine (pass_any B p held left lim _ ov fx w H.out).mono ?_
  rintro e w1 ⟨rfl, k1, f1⟩
  have K1 : Hid _ := k1; clear k1
  go_wp2_with fail
  by_cases s1 : I.length < p + 2
  · refine (two_short B b o c p held 0 lim I ov fx w1 K1.out hp s1 hl hbB (hI.keep f1 hbB)).mono ?_
    rintro e w2 ⟨rfl, f2⟩
    go_wp2_with fail
    exact ⟨rfl, Or.inr (Or.inl ⟨rfl, by omega⟩), One.up (f1.trans f2)⟩
  have I1 : Lies w1 b o I := hI.keep f1 hbB
  refine (two_ok B b o I.length c p held 0 lim _ _ ov fx w1 K1.out (by omega) hl hbB (I1 p (by omega)) (I1 (p + 1) (by omega)) (u8_lt _).1 (u8_lt _).2 (u8_lt _).1 (u8_lt _).2).mono ?_
  rintro e w2 ⟨rfl, k2, f2⟩
  have e1 : ((I.getD p 0).toNat : Int) + 256 * ((I.getD (p + 1) 0).toNat : Int) = (n : Int) := by
    rw [hd.1 (by omega), hd.2.1 (by omega)]
    omega
  rw [e1]
  have K2 : Hid _ := k2; clear k2 e1
  go_wp2_with fail
  by_cases s2 : I.length < p + 4
  · refine (two_short B b o c (p + 2) held 0 lim I ov fx w2 K2.out (by omega) (by omega) hl hbB (I1.keep f2 hbB)).mono ?_
    rintro e w3 ⟨rfl, f3⟩
    go_wp2_with fail
    exact ⟨rfl, Or.inr (Or.inl ⟨rfl, by omega⟩), One.up ((f1.trans f2).trans f3)⟩
  have I2 : Lies w2 b o I := I1.keep f2 hbB
  refine (two_ok B b o I.length c (p + 2) held 0 lim _ _ ov fx w2 K2.out (by omega) hl hbB (I2 (p + 2) (by omega)) (I2 (p + 2 + 1) (by omega)) (u8_lt _).1 (u8_lt _).2 (u8_lt _).1 (u8_lt _).2).mono ?_
  rintro e w3 ⟨rfl, k3, f3⟩
  have e1 : ((I.getD (p + 2) 0).toNat : Int) + 256 * ((I.getD (p + 2 + 1) 0).toNat : Int) = ((65535 - n : Nat) : Int) := by
    rw [hd.2.2.1 (by omega), hd.2.2.2 (by omega)]
    omega
  rw [e1]
  have I3 : Lies w3 b o I := I2.keep f3 hbB
  have K3 : Hid _ := k3; clear k3 e1 I2
  have hx : bits BinOp.xor IntKind.i64 (n : Int) ((65535 - n : Nat) : Int) = 65535 := by
    rw [xor_i64_nat n (65535 - n) (by omega) (by omega), xor_len n hn]; rfl
  go_wp2_with fail
  go_loopw [22] (fun i wr => ∃ j : Nat, j ≤ n ∧ i = .int .i64 j ∧ p + 4 + j ≤ I.length ∧ (m : Int) + j ≤ lim ∧ (∃ ov', wr.heap[B]? = some (RB (.slice (some ⟨b, o, none⟩) I.length c) (p + 4 + j : Nat) held 0 ov' lim fx) ∧ wr.ownsRow (B + 1) 5 1 ov' (m + j) (xs ++ bv8 ((I.drop (p + 4)).take j))) ∧ Lies wr b o I ∧ Fr (fun k => B ≤ k) w wr) (fun i _ => n - (intOf i).toNat)
  case atStart =>
    refine ⟨0, by omega, rfl, by omega, by omega, ⟨ov, ?_, ?_⟩, I3, One.up ((f1.trans f2).trans f3)⟩
    · exact K3.out
    · simpa [bv8] using own_one HO.out ((f1.trans f2).trans f3)
  case round =>
    obtain ⟨j, hj, rfl, hj1, hj2, ⟨ov', hh, hw⟩, hIr, hfr⟩ := hrel
    have HH : Hid _ := hh; clear hh
    have HW : Hid _ := hw; clear hw
    by_cases hjn : j < n
    · go_wp2_with fail
      by_cases s3 : p + 4 + j = I.length
      · have K4 := HH.out
        rw [s3] at K4
        refine (take_short B _ I.length c held 0 lim ov' fx wr K4).mono ?_
        rintro e w4 ⟨rfl, rfl⟩
        clear K4
        go_wp2_with fail
        exact ⟨rfl, Or.inr (Or.inl ⟨rfl, by omega⟩), hfr.drew⟩
      refine (take_ok B b o I.length c (p + 4 + j) held 0 lim _ ov' fx wr HH.out (by omega) hl hbB (hIr (p + 4 + j) (by omega))).mono ?_
      rintro e w4 ⟨rfl, k4, f4⟩
      have K4 : Hid _ := k4; clear k4
      have HW4 : Hid _ := own_one HW.out f4
      go_wp2_with fail
      by_cases s4 : ((m + j : Nat) : Int) = lim
      · have K5 := K4.out
        rw [← s4] at K5
        refine (put_limit B _ held 0 _ (m + j) _ ov' fx _ w4 (B + 1) K5 HW4.out).mono ?_
        rintro e w5 ⟨rfl, rfl⟩
        clear K5
        go_wp2_with fail
        exact ⟨rfl, Or.inr (Or.inr ⟨rfl, by omega⟩), (hfr.trans (One.up f4)).drew⟩
      refine (put_ok B _ held 0 lim _ (m + j) _ ov' fx _ w4 K4.out HW4.out (by omega) hlim).mono ?_
      rintro e w5 ⟨rfl, ov5, k5, o5, f5⟩
      have K5 : Hid _ := k5; clear k5
      go_wp2_with fail
      go_roundw
      case rel =>
        refine ⟨j + 1, by omega, by go_num, by omega, by omega, ⟨ov5, K5.out, ?_⟩, ?_, ?_⟩
        · rw [take_snoc I (p + 4) j (by omega), bv8_append, ← List.append_assoc]
          exact o5
        · exact (hIr.keep (One.up f4) (by omega)).keep (own_up HW4.out f5) (by omega)
        · exact (hfr.trans (One.up f4)).trans (own_up HW4.out f5)
      case measure => simp [intOf]; omega
    · have hjn' : j = n := by omega
      subst hjn'
      go_wp2_with fail
      go_end0
      exact ⟨Or.inl ⟨rfl, by omega, by omega, held, ov', HH.out, hh0, hh1, HW.out⟩, hfr⟩

end Go.Proofs.YtdpobjgfnhjagaaDoor
