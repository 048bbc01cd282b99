import Derived.Test.YtdpobjgfnhjagaaDoorWa
namespace Go.Proofs.YtdpobjgfnhjagaaDoor
open Go.RowKit

/-- Bytes as cells. -/
def bv8 (L : List UInt8) : List Value := L.map fun c => .int .u8 (c.toNat : Int)

theorem bv8_append (a b : List UInt8) : bv8 (a ++ b) = bv8 a ++ bv8 b := by simp [bv8]

/-- The input's bytes lie in block b from o on. -/
def Lies (w : World) (b o : Nat) (I : List UInt8) : Prop := ∀ i, i < I.length → w.cell? ⟨b, o + i, none⟩ = some (.int .u8 ((I.getD i 0).toNat : Int))

theorem Lies.keep {w w' : World} {b o : Nat} {I : List UInt8} {S : Nat → Prop} (h : Lies w b o I) (f : Fr S w w') (hs : ¬ S b) : Lies w' b o I :=
  fun i hi => ne_of_cell f hs (h i hi)

theorem take_snoc (I : List UInt8) (p j : Nat) (h : p + j < I.length) : (I.drop p).take (j + 1) = (I.drop p).take j ++ [I.getD (p + j) 0] := by
  have e : I.getD (p + j) 0 = I[p + j] := by simp [List.getD, h]
  rw [List.take_succ_eq_append_getElem (by simp; omega), e, List.getElem_drop]

theorem u8_lt (c : UInt8) : (0 : Int) ≤ (c.toNat : Int) ∧ (c.toNat : Int) < 256 := by
  have := c.toNat_lt
  omega

/-- The four bytes of a length, as far as they are there. -/
def Head (I : List UInt8) (p n : Nat) : Prop :=
  (p < I.length → (I.getD p 0).toNat = n % 256) ∧ (p + 1 < I.length → (I.getD (p + 1) 0).toNat = n / 256) ∧
  (p + 2 < I.length → (I.getD (p + 2) 0).toNat = 255 - n % 256) ∧ (p + 3 < I.length → (I.getD (p + 3) 0).toNat = 255 - n / 256)

theorem xor_len (n : Nat) (h : n ≤ 2000) : n ^^^ (65535 - n) = 65535 := by
  have key : ∀ k : Fin 2001, k.val ^^^ (65535 - k.val) = 65535 := by decide +kernel
  exact key ⟨n, by omega⟩

set_option maxHeartbeats 400000 in
theorem two_short (B b o c p : Nat) (held left lim : Int) (I : List UInt8) (ov fx : Value) (w : World)
    (h : w.heap[B]? = some (RB (.slice (some ⟨b, o, none⟩) I.length c) p held left ov lim fx)) (hp : p ≤ I.length) (hq : I.length < p + 2) (hl : I.length ≤ maxLen) (hb : b ≠ B) (hI : Lies w b o I) :
    Calls Tryd.prog 65 #[.pointer (some ⟨B, 0, none⟩)] w fun r w' => r = stop 2 ∧ Fr (One B) w w' := by
  have H : Hid _ := h; clear h
  by_cases h1 : p = I.length
  · subst h1
    go_enter Tryd.func65, Tryd.ntmps65
    go_wp2_with fail
    refine (take_short B _ I.length c held left lim ov fx w H.out).mono ?_
    rintro e w1 ⟨rfl, rfl⟩
    go_wp2_with fail
    exact ⟨rfl, rfl, (Fr.refl _ _).drew⟩
  · have h2 : p + 1 = I.length := by omega
    have H2 : Hid _ := h2
    have hx := hI p (by omega)
    have HI : Hid _ := hI; clear hI
    go_enter Tryd.func65, Tryd.ntmps65
    go_wp2_with fail
    refine (take_ok B b o I.length c p held left lim _ ov fx w H.out (by omega) hl hb hx).mono ?_
    rintro e w1 ⟨rfl, k1, f1⟩
    rw [h2] at k1
    have K : Hid _ := k1; clear k1 h2 hx
    go_wp2_with fail
    refine (take_short B _ I.length c held left lim ov fx w1 K.out).mono ?_
    rintro e w2 ⟨rfl, rfl⟩
    go_wp2_with fail
    exact ⟨rfl, rfl, f1.drew⟩

end Go.Proofs.YtdpobjgfnhjagaaDoor
