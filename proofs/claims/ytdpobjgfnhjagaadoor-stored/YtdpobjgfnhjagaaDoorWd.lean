import Derived.Test.YtdpobjgfnhjagaaDoorWc
namespace Go.Proofs.YtdpobjgfnhjagaaDoor
open Go.RowKit

set_option maxHeartbeats 1000000 in
theorem block_stored (B b o c p n m : Nat) (held left lim : Int) (I : List UInt8) (ov fx : Value) (xs : List Value) (w : World)
    (h : w.heap[B]? = some (RB (.slice (some ⟨b, o, none⟩) I.length c) p held left ov lim fx)) (hh0 : 0 ≤ held) (hh1 : held < 256) (hp : p ≤ I.length) (hl : I.length ≤ maxLen) (hb : b < B) (hI : Lies w b o I)
    (hd : Head I p n) (hn : n ≤ 2000) (ho : w.ownsRow (B + 1) 5 1 ov m xs) (hm : (m : Int) ≤ lim) (hlim : lim ≤ 60000) :
    Calls Tryd.prog 23 #[.pointer (some ⟨B, 0, none⟩), .int .i64 0] w (Came B b o c I ov fx lim xs (p + 4 + n) (m + n) ((I.drop (p + 4)).take n) w) := by
  have H : Hid _ := h; clear h
  go_enter Tryd.func23, Tryd.ntmps23
  go_wp2_with fail
  refine (stored_any B b o c p n m held left lim I ov fx xs w H.out hh0 hh1 hp hl hb hI hd hn ho hm hlim).mono ?_
  rintro e w1 hc
  obtain ⟨(⟨rfl, g⟩ | ⟨rfl, g⟩ | ⟨rfl, g⟩), f⟩ := hc
  · go_wp2_with fail
    go_end0
    exact ⟨Or.inl ⟨rfl, g⟩, f⟩
  · go_wp2_with fail
    exact ⟨rfl, Or.inr (Or.inl ⟨rfl, g⟩), f⟩
  · go_wp2_with fail
    exact ⟨rfl, Or.inr (Or.inr ⟨rfl, g⟩), f⟩

/-- A stored block's first five bytes and its bytes; all blocks. -/
def headOf (last : Bool) (n : Nat) : List UInt8 := [if last then 1 else 0, UInt8.ofNat (n % 256), UInt8.ofNat (n / 256), UInt8.ofNat (255 - n % 256), UInt8.ofNat (255 - n / 256)]
def enc : List (List UInt8) → List UInt8
  | [] => []
  | x :: r => headOf r.isEmpty x.length ++ x ++ enc r

/-- From p on the input is as far as it goes the blocks' text. -/
def Reads (I : List UInt8) (p : Nat) (r : List (List UInt8)) : Prop := ∀ i, i < (enc r).length → p + i < I.length → I.getD (p + i) 0 = (enc r).getD i 0

theorem head_length (l : Bool) (n : Nat) : (headOf l n).length = 5 := rfl
theorem enc_cons_length (x : List UInt8) (r : List (List UInt8)) : (enc (x :: r)).length = 5 + x.length + (enc r).length := by
  simp [enc, head_length]; omega

theorem getD_app_left (a b : List UInt8) (i : Nat) (h : i < a.length) : (a ++ b).getD i 0 = a.getD i 0 := by
  simp [List.getD, List.getElem?_append_left h]
theorem getD_app_right (a b : List UInt8) (i : Nat) : (a ++ b).getD (a.length + i) 0 = b.getD i 0 := by
  simp [List.getD, List.getElem?_append_right]

theorem reads_first {I : List UInt8} {p : Nat} {x : List UInt8} {r : List (List UInt8)} (h : Reads I p (x :: r)) (hp : p < I.length) : (I.getD p 0).toNat = if r.isEmpty then 1 else 0 := by
  have := h 0 (by rw [enc_cons_length]; omega) (by omega)
  rw [Nat.add_zero] at this
  rw [this]
  simp only [enc, headOf]
  cases r <;> rfl

theorem reads_head {I : List UInt8} {p : Nat} {x : List UInt8} {r : List (List UInt8)} (h : Reads I p (x :: r)) (hx : x.length ≤ 2000) : Head I (p + 1) x.length := by
  have e : ∀ i, i < 5 → p + i < I.length → I.getD (p + i) 0 = (headOf r.isEmpty x.length).getD i 0 := by
    intro i hi hp
    rw [h i (by rw [enc_cons_length]; omega) hp]
    simp only [enc]
    rw [List.append_assoc]
    exact getD_app_left _ _ _ (by rw [head_length]; omega)
  refine ⟨fun hp => ?_, fun hp => ?_, fun hp => ?_, fun hp => ?_⟩
  · rw [e 1 (by omega) (by omega)]; simp [headOf]
  · have := e 2 (by omega) (by omega)
    rw [show p + 1 + 1 = p + 2 from rfl, this]; simp [headOf]; omega
  · have := e 3 (by omega) (by omega)
    rw [show p + 1 + 2 = p + 3 from rfl, this]; simp [headOf]; omega
  · have := e 4 (by omega) (by omega)
    rw [show p + 1 + 3 = p + 4 from rfl, this]; simp [headOf]; omega

theorem reads_body {I : List UInt8} {p : Nat} {x : List UInt8} {r : List (List UInt8)} (h : Reads I p (x :: r)) (hx : p + 5 + x.length ≤ I.length) : (I.drop (p + 5)).take x.length = x := by
  apply List.ext_getElem
  · simp; omega
  · intro i h1 h2
    simp at h1
    have := h (5 + i) (by rw [enc_cons_length]; omega) (by omega)
    rw [List.getElem_take, List.getElem_drop]
    have e1 : I.getD (p + (5 + i)) 0 = I[p + 5 + i]'(by omega) := by
      simp only [List.getD, ← Nat.add_assoc]
      rw [List.getElem?_eq_getElem (by omega)]; rfl
    rw [e1] at this
    rw [this]
    simp only [enc]
    rw [List.append_assoc]
    have e2 := getD_app_right (headOf r.isEmpty x.length) (x ++ enc r) i
    rw [head_length] at e2
    rw [e2, getD_app_left _ _ _ h2]
    simp [List.getD, h2]

theorem reads_rest {I : List UInt8} {p : Nat} {x : List UInt8} {r : List (List UInt8)} (h : Reads I p (x :: r)) : Reads I (p + 5 + x.length) r := by
  intro i hi hp
  have := h (5 + x.length + i) (by rw [enc_cons_length]; omega) (by omega)
  rw [show p + (5 + x.length + i) = p + 5 + x.length + i by omega] at this
  rw [this]
  simp only [enc]
  have e2 := getD_app_right (headOf r.isEmpty x.length ++ x) (enc r) i
  rw [List.length_append, head_length] at e2
  exact e2

end Go.Proofs.YtdpobjgfnhjagaaDoor
