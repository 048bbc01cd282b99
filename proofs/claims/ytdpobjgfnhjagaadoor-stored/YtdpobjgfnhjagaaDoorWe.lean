import Derived.Test.YtdpobjgfnhjagaaDoorWd
namespace Go.Proofs.YtdpobjgfnhjagaaDoor
open Go.RowKit

/-- Where the reader stands. -/
def posOf (B : Nat) (w : World) : Nat := match w.cell? ⟨B, 1, none⟩ with | some (.int _ q) => q.toNat | _ => 0

theorem posOf_rb {w : World} {B : Nat} {bv ov fx : Value} {held left lim : Int} {p : Nat} (h : w.heap[B]? = some (RB bv p held left ov lim fx)) : posOf B w = p := by
  simp [posOf, (rb_cells h).2.1]

set_option maxHeartbeats 1000000 in
theorem blocks_any (B b o c : Nat) (lim : Int) (I : List UInt8) (blks : List (List UInt8)) (fx : Value) (w : World)
    (h : w.heap[B]? = some (RB (.slice (some ⟨b, o, none⟩) I.length c) 0 0 0 (.slice none 0 0) lim fx)) (hl : I.length ≤ maxLen) (hb : b < B) (hI : Lies w b o I)
    (hne : blks ≠ []) (hr : Reads I 0 blks) (hx : ∀ x ∈ blks, x.length ≤ 2000) (hl0 : 0 ≤ lim) (hlim : lim ≤ 60000) :
    Calls Tryd.prog 15 #[.pointer (some ⟨B, 0, none⟩)] w (Came B b o c I (.slice none 0 0) fx lim [] (enc blks).length blks.flatten.length blks.flatten w) := by
  have hbB : b ≠ B := by omega
  have H : Hid _ := h; clear h
  go_enter Tryd.func15, Tryd.ntmps15
  go_wp2_with fail
  go_loopw [2] (fun t wr => ∃ (done r : List (List UInt8)) (q : Nat), Hid (blks = done ++ r) ∧ t = .bool r.isEmpty ∧ Hid (q + (enc r).length = (enc blks).length) ∧ Reads I q r ∧ q ≤ I.length ∧ ((done.flatten.length : Nat) : Int) ≤ lim ∧ (∃ held ov', wr.heap[B]? = some (RB (.slice (some ⟨b, o, none⟩) I.length c) q held 0 ov' lim fx) ∧ 0 ≤ held ∧ held < 256 ∧ wr.ownsRow (B + 1) 5 1 ov' done.flatten.length (bv8 done.flatten)) ∧ Lies wr b o I ∧ Fr (fun k => B ≤ k) w wr) (fun _ wr => (enc blks).length - posOf B wr)
  case atStart =>
    refine ⟨[], blks, 0, rfl, ?_, by simp [Hid], hr, by omega, by simpa using hl0, ⟨0, .slice none 0 0, H.out, by omega, by omega, ?_⟩, hI, Fr.refl _ _⟩
    · cases blks with
      | nil => exact absurd rfl hne
      | cons a r => rfl
    · exact ⟨rfl, Or.inl ⟨rfl, rfl⟩⟩
  case round =>
    obtain ⟨done, r, q, hB, rfl, hq, hR, hq1, hm, ⟨held, ov', hh, g0, g1, hw⟩, hIr, hfr⟩ := hrel
    have HH : Hid _ := hh; clear hh
    cases r with
    | nil =>
      go_wp2_with fail
      go_end0
      have e1 : blks = done := by simpa using hB.out
      have e2 : q = (enc blks).length := by have := hq.out; simpa [enc] using this
      subst e1
      subst e2
      exact ⟨Or.inl ⟨rfl, hq1, hm, held, ov', HH.out, g0, g1, by simpa using hw⟩, hfr⟩
    | cons x r =>
      have hxl : x.length ≤ 2000 := hx x (by rw [hB.out]; simp)
      have hle : q + 5 + x.length ≤ (enc blks).length := by have := hq.out; rw [enc_cons_length] at this; omega
      have hml : done.flatten.length + x.length ≤ blks.flatten.length := by rw [hB.out]; simp
      have hpos := posOf_rb HH.out
      have HP : Hid _ := hpos; clear hpos
      go_wp2_with fail
      by_cases s0 : q = I.length
      · have K1 := HH.out
        rw [s0] at K1
        refine (bit_short B _ I.length c held lim ov' fx wr K1).mono ?_
        rintro e w1 ⟨rfl, rfl⟩
        clear K1
        go_wp2_with fail
        exact ⟨rfl, Or.inr (Or.inl ⟨rfl, by omega⟩), hfr.drew⟩
      have hf := reads_first hR (by omega)
      refine (bit_fresh B b o I.length c q held lim _ ov' fx wr HH.out (by omega) hl hbB (hIr q (by omega)) (u8_lt _).1 (u8_lt _).2).mono ?_
      rintro e w1 ⟨rfl, k1, f1⟩
      generalize (I.getD q 0).toNat = y at hf k1
      have hz1 : (y : Int) / 2 = 0 := by split at hf <;> omega
      have hz2 : (y : Int) % 2 = y := by split at hf <;> omega
      rw [hz1] at k1
      rw [hz2]
      have HF : Hid _ := hf; clear hf
      have K1 : Hid _ := k1; clear k1 hz1 hz2
      go_wp2_with fail
      refine (number_two B 5 (q + 1) 0 lim _ ov' fx w1 K1.out (by omega) (by omega) (by omega)).mono ?_
      rintro e w2 ⟨rfl, k2, f2⟩
      have K2 : Hid _ := k2; clear k2
      have I2 : Lies w2 b o I := (hIr.keep f1 hbB).keep f2 hbB
      have o2 := own_one (own_one hw f1) f2
      go_wp2_with fail
      refine (block_stored B b o c (q + 1) x.length done.flatten.length (0 / 4) 5 lim I ov' fx (bv8 done.flatten) w2 K2.out (by decide) (by decide) (by omega) hl hb I2 (reads_head hR hxl) hxl o2 hm hlim).mono ?_
      rintro e w3 hc
      obtain ⟨(⟨rfl, t1, t2, held3, ov3, k3, t3, t4, o3⟩ | ⟨rfl, g⟩ | ⟨rfl, g⟩), f3⟩ := hc
      · have K3 : Hid _ := k3; clear k3
        have I3 : Lies w3 b o I := I2.keep f3 (by omega)
        go_wp2_with fail
        go_roundw
        case rel =>
          refine ⟨done ++ [x], r, q + 5 + x.length, ?_, ?_, ?_, reads_rest hR, by omega, ?_, ⟨held3, ov3, ?_, t3, t4, ?_⟩, I3, (hfr.trans (One.up (f1.trans f2))).trans f3⟩
          · show blks = _
            rw [hB.out]; simp
          · have := HF.out
            cases r with
            | nil => simp at this; subst this; rfl
            | cons a r => simp at this; subst this; rfl
          · have := hq.out
            rw [enc_cons_length] at this
            show _ = _
            omega
          · simpa using t2
          · have := K3.out
            rw [show q + 1 + 4 + x.length = q + 5 + x.length by omega] at this
            exact this
          · have e : (I.drop (q + 5)).take x.length = x := reads_body hR (by omega)
            rw [show q + 1 + 4 = q + 5 from rfl, e, ← bv8_append] at o3
            simpa using o3
        case measure =>
          have := posOf_rb K3.out
          rw [HP.out, this]
          omega
      · go_wp2_with fail
        exact ⟨rfl, Or.inr (Or.inl ⟨rfl, by omega⟩), (hfr.trans (One.up (f1.trans f2))).trans f3⟩
      · go_wp2_with fail
        exact ⟨rfl, Or.inr (Or.inr ⟨rfl, by omega⟩), (hfr.trans (One.up (f1.trans f2))).trans f3⟩

end Go.Proofs.YtdpobjgfnhjagaaDoor
